/- Chapter 11 of the reference: ActiveOf. -/
import Derived.Test.YtdacfeebidhgnaaSpec11a
namespace Go.Proofs.Ytdacfeebidhgnaa
open Go.RowKit
set_option maxRecDepth 100000

set_option maxHeartbeats 8000000 in
theorem l11First_any (n : Int) (s k : Nat) (A : Option Addr) (cap : Nat) (es : List (Int × Int)) (w : World) (hes : EdgesIn w w.heap.size A es) (hn : netOkB n es = true) (hs : s < 2 ^ es.length) (hb : leastS es (s : Nat) = true) (hk : k < es.length) :
    Calls Try.prog 74 #[.agg #[.int .i64 n, .slice A es.length cap], .int .i64 (s : Nat), .int .i64 (k : Nat)] w fun e w' => e = .returned (.bool (firstV es s k)) ∧ Below w.heap.size w w' := by
  have h9 := (netOkB_iff.1 hn).2.1
  have L0 := ArgNet.start (cap := cap) (n := n) 29 hes
  have hs5 : s < 512 := Nat.lt_of_lt_of_le hs (Nat.pow_le_pow_right (n := 2) (by omega) h9)
  have HL : Hid (∀ t : Nat, t < 2 ^ es.length → ∀ u, ArgNet w u n A cap es → Calls Try.prog 66 #[.agg #[.int .i64 n, .slice A es.length cap], .int .i64 (t : Nat)] u fun e w' => e = .returned (.int .i64 (piecesB n es t : Nat)) ∧ Below u.heap.size u w') := fun t ht u h => l2Pieces_any n t A cap es u h.edges (state_of hn ht)
  have HX : Hid (∀ j, j < k → baseB (endsL es) (fun x => x) (flipT (flipT (bits (s : Nat)) k) j) = ((s.testBit k != s.testBit j) && decide ((piecesB n es (((s ^^^ 2 ^ k) ^^^ 2 ^ j : Nat) : Int) : Int) = (piecesB n es (s : Nat) : Nat)))) := fun j hj => leastS_exch hn hs hk hj hb
  have HXL : Hid (∀ j, j < k → (s ^^^ 2 ^ k) ^^^ 2 ^ j < 2 ^ es.length ∧ s ^^^ 2 ^ k < 512) := fun j hj => by
    have h1 := xor_lt hs hk
    exact ⟨xor_lt h1 (by omega), Nat.lt_of_lt_of_le h1 (Nat.pow_le_pow_right (n := 2) (by omega) h9)⟩
  have HNO : Hid (∀ j, j < k → baseB (endsL es) (fun x => x) (flipT (flipT (bits (s : Nat)) k) j) = true → firstV es s k = false) := fun j hj h => firstV_no hj h
  have HYE : Hid ((∀ j, j < k → baseB (endsL es) (fun x => x) (flipT (flipT (bits (s : Nat)) k) j) = false) → firstV es s k = true) := firstV_yes
  have HS := Lib.hid (HL.out s hs)
  obtain ⟨M, hM⟩ : ∃ M, piecesB n es ((s : Nat) : Int) = M := ⟨_, rfl⟩
  rw [hM] at HX HS
  have hkmin : min k 64 = k := by omega
  have hbk := bit_tmod s k
  have k8 : k ≤ 8 := by omega
  have hxk : Hid (s.testBit k = true → s ^^^ 2 ^ k = s - 2 ^ k ∧ 2 ^ k ≤ s) := fun h => xor_sub hs5 (Nat.lt_succ_of_le k8) h
  have hxk' : Hid (s.testBit k = false → s ^^^ 2 ^ k = s + 2 ^ k) := fun h => xor_add hs5 (Nat.lt_succ_of_le k8) h
  obtain ⟨tk, htk⟩ : ∃ tk, s.testBit k = tk := ⟨_, rfl⟩
  have HT : Hid (∀ j, (s ^^^ 2 ^ k).testBit j = (s.testBit j != decide (k = j))) := fun j => by rw [Nat.testBit_xor, Nat.testBit_two_pow]
  obtain ⟨r, hr⟩ : ∃ r, s ^^^ 2 ^ k = r := ⟨_, rfl⟩
  rw [hr] at HX HXL hxk hxk' HT
  rw [htk] at HX hbk hxk hxk'
  obtain ⟨P, hP, ⟨p1, p2⟩, hp3, hp4⟩ := pow_named8 k8
  have HP3 := Lib.hid hp3
  have HP4 := Lib.hid hp4
  clear hp3 hp4
  rw [hP] at hxk hxk'
  clear hM hes hn hs hb hr htk hP
  obtain ⟨_, _, c0, c1, s0⟩ := id L0
  go_enter Try.func74, Try.ntmps74
  go_wp2_with fail
  refine (HS.out _ L0).mono ?_
  rintro e1 w1 ⟨rfl, hb1⟩
  have L1 := L0.on _ hb1
  clear c0 c1 s0 L0 hb1
  go_wp2_with fail
  go_loopw [8] (fun t wr => ∃ j : Nat, j ≤ k ∧ t = .int .i64 (j : Nat) ∧ Hid (∀ i, i < j → baseB (endsL es) (fun x => x) (flipT (flipT (bits (s : Nat)) k) i) = false) ∧ ArgNet w wr n A cap es) (fun t _ => k - (intOf t).toNat)
  case atStart => exact ⟨0, by omega, rfl, fun i hi => by omega, L1⟩
  case round =>
    clear L1
    obtain ⟨j, hj, rfl, HJ, L⟩ := hrel
    by_cases hlt : j < k
    · have hv := Lib.hid (HX.out j hlt)
      obtain ⟨hx1, hx2⟩ := HXL.out j hlt
      have HC := Lib.hid (HL.out (r ^^^ 2 ^ j) hx1)
      have HNO' := Lib.hid (HNO.out j hlt)
      have j8 : j ≤ 8 := Nat.le_trans (Nat.le_of_lt hlt) k8
      have hbj := bit_tmod s j
      have hTj := HT.out j
      rw [decide_eq_false (Nat.ne_of_gt hlt)] at hTj
      have hxj : Hid (r.testBit j = true → r ^^^ 2 ^ j = r - 2 ^ j ∧ 2 ^ j ≤ r) := fun h => xor_sub hx2 (Nat.lt_succ_of_le j8) h
      have hxj' : Hid (r.testBit j = false → r ^^^ 2 ^ j = r + 2 ^ j) := fun h => xor_add hx2 (Nat.lt_succ_of_le j8) h
      have hjmin : min j 64 = j := Nat.min_eq_left (Nat.le_trans j8 (by decide))
      obtain ⟨z, hz⟩ : ∃ z, r ^^^ 2 ^ j = z := ⟨_, rfl⟩
      rw [hz] at hv HC hxj hxj'
      obtain ⟨y, hy⟩ : ∃ y, piecesB n es ((z : Nat) : Int) = y := ⟨_, rfl⟩
      rw [hy] at hv HC
      obtain ⟨P2, hP2, ⟨p21, p22⟩, hp23, hp24⟩ := pow_named8 j8
      have HP23 := Lib.hid hp23
      have HP24 := Lib.hid hp24
      clear hp23 hp24
      rw [hP2] at hxj hxj'
      clear hx1 hz hy hP2
      have HJ2 : Hid (baseB (endsL es) (fun x => x) (flipT (flipT (bits (s : Nat)) k) j) = false → ∀ i, i < j + 1 → baseB (endsL es) (fun x => x) (flipT (flipT (bits (s : Nat)) k) i) = false) := fun hv i hi => by
        by_cases e : i = j
        · subst e; exact hv
        · exact HJ.out i (by omega)
      clear HJ HXL HL HX HT
      obtain ⟨tj, htj⟩ : ∃ tj, s.testBit j = tj := ⟨_, rfl⟩
      rw [htj] at hv hbj hTj
      simp only [Bool.bne_false] at hTj
      clear htj
      generalize baseB (endsL es) (fun x => x) (flipT (flipT (bits (s : Nat)) k) j) = bv at *
      cases tk with
      | false =>
        have hrv := hxk'.out rfl
        rw [if_neg (by simp)] at hbk
        cases tj with
        | false =>
          have hbv : bv = false := hv.out.trans (by simp)
          have HJ3 := Lib.hid (HJ2.out hbv)
          rw [if_neg (by simp)] at hbj
          clear hv HJ2 HNO' HNO HYE HS hxk hxk' hxj hxj' hx2 hs5 hrv p1 p2 p21 p22 HC HP3 HP4 HP23 HP24 h9
          go_wp2_with fail
          obtain ⟨_, _, c0, c1, s0⟩ := id L
          refine wp_region_class (fun u => ArgNet w u n A cap es) (by kernel_rfl) (by kernel_rfl) L.drew ?_
          clear L c0 c1 s0
          intro X hX f hf hex
          have k0 : ∀ x, (f x).cell? ⟨w.heap.size, 0, none⟩ = some (.int .i64 n) := fun x => (hf x).c0
          have k1 : ∀ x, (f x).cell? ⟨w.heap.size, 1, none⟩ = some (.slice A es.length cap) := fun x => (hf x).c1
          repeat (go_big_quiet_step (first | (go_at_call 66; with_reducible exact class_of hex (HC.out _ (hf _)) (hf _).on)))
          refine wpQuiet_nil ?_
          rintro _ ⟨x, rfl⟩
          have L := hf x
          generalize f x = W9 at *
          clear k0 k1 hf hex
          go_wp2_with fail
          obtain ⟨_, _, c0, c1, s0⟩ := id L
          refine wp_region_class (fun u => ArgNet w u n A cap es) (by kernel_rfl) (by kernel_rfl) L.drew ?_
          clear L c0 c1 s0
          intro X2 hX2 f hf hex
          have k0 : ∀ x, (f x).cell? ⟨w.heap.size, 0, none⟩ = some (.int .i64 n) := fun x => (hf x).c0
          have k1 : ∀ x, (f x).cell? ⟨w.heap.size, 1, none⟩ = some (.slice A es.length cap) := fun x => (hf x).c1
          repeat (go_big_quiet_step (first | (go_at_call 66; with_reducible exact class_of hex (HC.out _ (hf _)) (hf _).on)))
          refine wpQuiet_nil ?_
          rintro _ ⟨x, rfl⟩
          have L := hf x
          generalize f x = W9 at *
          clear k0 k1 hf hex
          go_wp2_with fail
          go_roundw
          case rel => exact ⟨j + 1, by omega, by go_num, HJ3, L⟩
          case measure => simp [intOf]; omega
        | true =>
          obtain ⟨hzv, hzl⟩ := hxj.out (hTj)
          have w1 : IntKind.i64.wrap ((s : Int) + (P : Int)) = (r : Int) := wrap_up hrv hs5 p2
          have w2 : IntKind.i64.wrap ((r : Int) - (P2 : Int)) = (z : Int) := wrap_down hzv hzl (Nat.lt_of_lt_of_le hx2 (by decide))
          rw [if_pos rfl] at hbj
          by_cases hyM : y = M
          · subst hyM
            have hbv : bv = true := hv.out.trans (by simp)
            have HN9 := Lib.hid (HNO'.out hbv)
            clear hv HJ2 HNO' HNO HYE HS hxk hxk' hxj hxj' hx2 hs5 p1 p2 p21 p22 h9 hrv hzv
            go_wp2_with fail
            have hp3 := HP3.out
            have hp4 := HP4.out
            have hp23 := HP23.out
            have hp24 := HP24.out
            obtain ⟨_, _, c0, c1, s0⟩ := id L
            refine wp_region_class (fun u => ArgNet w u n A cap es) (by kernel_rfl) (by kernel_rfl) L.drew ?_
            clear L c0 c1 s0
            intro X hX f hf hex
            have k0 : ∀ x, (f x).cell? ⟨w.heap.size, 0, none⟩ = some (.int .i64 n) := fun x => (hf x).c0
            have k1 : ∀ x, (f x).cell? ⟨w.heap.size, 1, none⟩ = some (.slice A es.length cap) := fun x => (hf x).c1
            repeat (go_big_quiet_step (first | (go_at_call 66; with_reducible exact class_of hex (HC.out _ (hf _)) (hf _).on)))
            refine wpQuiet_nil ?_
            rintro _ ⟨x, rfl⟩
            have L := hf x
            generalize f x = W9 at *
            clear k0 k1 hf hex
            clear hp3 hp4 hp23 hp24
            go_wp2_with fail
            go_returns
            exact ⟨retB HN9.out.symm, L.below⟩
          · have hne : ((y : Int) == (M : Int)) = false := eq_ff hyM
            have hbv : bv = false := hv.out.trans (exch_no hyM _ _)
            have HJ3 := Lib.hid (HJ2.out hbv)
            clear hv HJ2 HNO' HNO HYE HS hxk hxk' hxj hxj' hx2 hs5 p1 p2 p21 p22 h9 hrv hzv
            go_wp2_with fail
            have hp3 := HP3.out
            have hp4 := HP4.out
            have hp23 := HP23.out
            have hp24 := HP24.out
            obtain ⟨_, _, c0, c1, s0⟩ := id L
            refine wp_region_class (fun u => ArgNet w u n A cap es) (by kernel_rfl) (by kernel_rfl) L.drew ?_
            clear L c0 c1 s0
            intro X hX f hf hex
            have k0 : ∀ x, (f x).cell? ⟨w.heap.size, 0, none⟩ = some (.int .i64 n) := fun x => (hf x).c0
            have k1 : ∀ x, (f x).cell? ⟨w.heap.size, 1, none⟩ = some (.slice A es.length cap) := fun x => (hf x).c1
            repeat (go_big_quiet_step (first | (go_at_call 66; with_reducible exact class_of hex (HC.out _ (hf _)) (hf _).on)))
            refine wpQuiet_nil ?_
            rintro _ ⟨x, rfl⟩
            have L := hf x
            generalize f x = W9 at *
            clear k0 k1 hf hex
            clear hp3 hp4 hp23 hp24
            go_wp2_with fail
            obtain ⟨_, _, c0, c1, s0⟩ := id L
            refine wp_region_class (fun u => ArgNet w u n A cap es) (by kernel_rfl) (by kernel_rfl) L.drew ?_
            clear L c0 c1 s0
            intro X2 hX2 f hf hex
            have k0 : ∀ x, (f x).cell? ⟨w.heap.size, 0, none⟩ = some (.int .i64 n) := fun x => (hf x).c0
            have k1 : ∀ x, (f x).cell? ⟨w.heap.size, 1, none⟩ = some (.slice A es.length cap) := fun x => (hf x).c1
            repeat (go_big_quiet_step (first | (go_at_call 66; with_reducible exact class_of hex (HC.out _ (hf _)) (hf _).on)))
            refine wpQuiet_nil ?_
            rintro _ ⟨x, rfl⟩
            have L := hf x
            generalize f x = W9 at *
            clear k0 k1 hf hex
            go_wp2_with fail
            go_roundw
            case rel => exact ⟨j + 1, by omega, by go_num, HJ3, L⟩
            case measure => simp [intOf]; omega
      | true =>
        obtain ⟨hrv, hrl⟩ := hxk.out rfl
        rw [if_pos rfl] at hbk
        cases tj with
        | true =>
          have hbv : bv = false := hv.out.trans (by simp)
          have HJ3 := Lib.hid (HJ2.out hbv)
          rw [if_pos rfl] at hbj
          clear hv HJ2 HNO' HNO HYE HS hxk hxk' hxj hxj' hx2 hs5 hrv p1 p2 p21 p22 HC HP3 HP4 HP23 HP24 h9
          go_wp2_with fail
          obtain ⟨_, _, c0, c1, s0⟩ := id L
          refine wp_region_class (fun u => ArgNet w u n A cap es) (by kernel_rfl) (by kernel_rfl) L.drew ?_
          clear L c0 c1 s0
          intro X hX f hf hex
          have k0 : ∀ x, (f x).cell? ⟨w.heap.size, 0, none⟩ = some (.int .i64 n) := fun x => (hf x).c0
          have k1 : ∀ x, (f x).cell? ⟨w.heap.size, 1, none⟩ = some (.slice A es.length cap) := fun x => (hf x).c1
          repeat (go_big_quiet_step (first | (go_at_call 66; with_reducible exact class_of hex (HC.out _ (hf _)) (hf _).on)))
          refine wpQuiet_nil ?_
          rintro _ ⟨x, rfl⟩
          have L := hf x
          generalize f x = W9 at *
          clear k0 k1 hf hex
          go_wp2_with fail
          obtain ⟨_, _, c0, c1, s0⟩ := id L
          refine wp_region_class (fun u => ArgNet w u n A cap es) (by kernel_rfl) (by kernel_rfl) L.drew ?_
          clear L c0 c1 s0
          intro X2 hX2 f hf hex
          have k0 : ∀ x, (f x).cell? ⟨w.heap.size, 0, none⟩ = some (.int .i64 n) := fun x => (hf x).c0
          have k1 : ∀ x, (f x).cell? ⟨w.heap.size, 1, none⟩ = some (.slice A es.length cap) := fun x => (hf x).c1
          repeat (go_big_quiet_step (first | (go_at_call 66; with_reducible exact class_of hex (HC.out _ (hf _)) (hf _).on)))
          refine wpQuiet_nil ?_
          rintro _ ⟨x, rfl⟩
          have L := hf x
          generalize f x = W9 at *
          clear k0 k1 hf hex
          go_wp2_with fail
          go_roundw
          case rel => exact ⟨j + 1, by omega, by go_num, HJ3, L⟩
          case measure => simp [intOf]; omega
        | false =>
          have hzv := hxj'.out (hTj)
          have w1 : IntKind.i64.wrap ((s : Int) - (P : Int)) = (r : Int) := wrap_down hrv hrl (Nat.lt_of_lt_of_le hs5 (by decide))
          have w2 : IntKind.i64.wrap ((r : Int) + (P2 : Int)) = (z : Int) := wrap_up hzv hx2 p22
          rw [if_neg (by simp)] at hbj
          by_cases hyM : y = M
          · subst hyM
            have hbv : bv = true := hv.out.trans (by simp)
            have HN9 := Lib.hid (HNO'.out hbv)
            clear hv HJ2 HNO' HNO HYE HS hxk hxk' hxj hxj' hx2 hs5 p1 p2 p21 p22 h9 hrv hzv
            go_wp2_with fail
            obtain ⟨_, _, c0, c1, s0⟩ := id L
            refine wp_region_class (fun u => ArgNet w u n A cap es) (by kernel_rfl) (by kernel_rfl) L.drew ?_
            clear L c0 c1 s0
            intro X hX f hf hex
            have k0 : ∀ x, (f x).cell? ⟨w.heap.size, 0, none⟩ = some (.int .i64 n) := fun x => (hf x).c0
            have k1 : ∀ x, (f x).cell? ⟨w.heap.size, 1, none⟩ = some (.slice A es.length cap) := fun x => (hf x).c1
            repeat (go_big_quiet_step (first | (go_at_call 66; with_reducible exact class_of hex (HC.out _ (hf _)) (hf _).on)))
            refine wpQuiet_nil ?_
            rintro _ ⟨x, rfl⟩
            have L := hf x
            generalize f x = W9 at *
            clear k0 k1 hf hex
            go_wp2_with fail
            have hp3 := HP3.out
            have hp4 := HP4.out
            have hp23 := HP23.out
            have hp24 := HP24.out
            obtain ⟨_, _, c0, c1, s0⟩ := id L
            refine wp_region_class (fun u => ArgNet w u n A cap es) (by kernel_rfl) (by kernel_rfl) L.drew ?_
            clear L c0 c1 s0
            intro X2 hX2 f hf hex
            have k0 : ∀ x, (f x).cell? ⟨w.heap.size, 0, none⟩ = some (.int .i64 n) := fun x => (hf x).c0
            have k1 : ∀ x, (f x).cell? ⟨w.heap.size, 1, none⟩ = some (.slice A es.length cap) := fun x => (hf x).c1
            repeat (go_big_quiet_step (first | (go_at_call 66; with_reducible exact class_of hex (HC.out _ (hf _)) (hf _).on)))
            refine wpQuiet_nil ?_
            rintro _ ⟨x, rfl⟩
            have L := hf x
            generalize f x = W9 at *
            clear k0 k1 hf hex
            clear hp3 hp4 hp23 hp24
            go_wp2_with fail
            go_returns
            exact ⟨retB HN9.out.symm, L.below⟩
          · have hne : ((y : Int) == (M : Int)) = false := eq_ff hyM
            have hbv : bv = false := hv.out.trans (exch_no hyM _ _)
            have HJ3 := Lib.hid (HJ2.out hbv)
            clear hv HJ2 HNO' HNO HYE HS hxk hxk' hxj hxj' hx2 hs5 p1 p2 p21 p22 h9 hrv hzv
            go_wp2_with fail
            obtain ⟨_, _, c0, c1, s0⟩ := id L
            refine wp_region_class (fun u => ArgNet w u n A cap es) (by kernel_rfl) (by kernel_rfl) L.drew ?_
            clear L c0 c1 s0
            intro X hX f hf hex
            have k0 : ∀ x, (f x).cell? ⟨w.heap.size, 0, none⟩ = some (.int .i64 n) := fun x => (hf x).c0
            have k1 : ∀ x, (f x).cell? ⟨w.heap.size, 1, none⟩ = some (.slice A es.length cap) := fun x => (hf x).c1
            repeat (go_big_quiet_step (first | (go_at_call 66; with_reducible exact class_of hex (HC.out _ (hf _)) (hf _).on)))
            refine wpQuiet_nil ?_
            rintro _ ⟨x, rfl⟩
            have L := hf x
            generalize f x = W9 at *
            clear k0 k1 hf hex
            go_wp2_with fail
            have hp3 := HP3.out
            have hp4 := HP4.out
            have hp23 := HP23.out
            have hp24 := HP24.out
            obtain ⟨_, _, c0, c1, s0⟩ := id L
            refine wp_region_class (fun u => ArgNet w u n A cap es) (by kernel_rfl) (by kernel_rfl) L.drew ?_
            clear L c0 c1 s0
            intro X2 hX2 f hf hex
            have k0 : ∀ x, (f x).cell? ⟨w.heap.size, 0, none⟩ = some (.int .i64 n) := fun x => (hf x).c0
            have k1 : ∀ x, (f x).cell? ⟨w.heap.size, 1, none⟩ = some (.slice A es.length cap) := fun x => (hf x).c1
            repeat (go_big_quiet_step (first | (go_at_call 66; with_reducible exact class_of hex (HC.out _ (hf _)) (hf _).on)))
            refine wpQuiet_nil ?_
            rintro _ ⟨x, rfl⟩
            have L := hf x
            generalize f x = W9 at *
            clear k0 k1 hf hex
            clear hp3 hp4 hp23 hp24
            go_wp2_with fail
            go_roundw
            case rel => exact ⟨j + 1, by omega, by go_num, HJ3, L⟩
            case measure => simp [intOf]; omega
    · obtain rfl : j = k := by omega
      have HY9 := Lib.hid (HYE.out HJ.out)
      clear HYE HJ
      go_wp2_with fail
      go_returns
      exact ⟨retB HY9.out.symm, L.below⟩
end Go.Proofs.Ytdacfeebidhgnaa
