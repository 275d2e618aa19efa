/- Chapter 11 of the reference: BasesOf. -/
import Derived.Test.YtdacfeebidhgnaaBases
import Derived.Test.YtdacfeebidhgnaaSpecCnt
import Derived.Test.YtdacfeebidhgnaaSieve
namespace Go.Proofs.Ytdacfeebidhgnaa
open Go.RowKit
set_option maxRecDepth 100000

set_option maxHeartbeats 8000000 in
theorem specBasesOf_any (n : Int) (A : Option Addr) (cap : Nat) (es : List (Int × Int)) (w : World) (hes : EdgesIn w w.heap.size A es) (hl : es.length ≤ 1048576) :
    Calls Try.prog 20 #[.agg #[.int .i64 n, .slice A es.length cap]] w (GotInts w (natI (basesN n es))) := by
  have L0 := ArgNet.start (cap := cap) (n := n) 29 hes
  have hbx := (Below.refl (w.heap.size + 1) (w.alloc (.cells #[.int .i64 n, .slice A es.length cap] 29))).alloc (by simp) (.cells #[] 3)
  have L1 := L0.step hbx (by omega)
  have own1 : OwnI ((w.alloc (.cells #[.int .i64 n, .slice A es.length cap] 29)).alloc (.cells #[] 3)) (w.heap.size + 1) (.slice (some ⟨w.heap.size + 1, 0, none⟩) 0 0) [] := by
    have o1 : OwnI ((w.alloc (.cells #[.int .i64 n, .slice A es.length cap] 29)).alloc (.cells #[] 3)) (w.heap.size + 1) (.slice (some ⟨(w.alloc (.cells #[.int .i64 n, .slice A es.length cap] 29)).heap.size, 0, none⟩) 0 0) [] := OwnI.box _ [] (by simp) (by simp)
    rw [World.size_alloc] at o1
    exact o1
  have ON : OutTr w _ n A cap es _ [] := ⟨L1, own1⟩
  clear hbx L0 own1 L1
  cases hok : netOkB n es with
  | false =>
    have HT : Hid (natI (basesN n es) = []) := by unfold Hid basesN; rw [hok]; rfl
    have HN : Hid (∀ u, OutTr w u n A cap es (.slice (some ⟨w.heap.size + 1, 0, none⟩) 0 0) [] → Calls Try.prog 52 #[.agg #[.int .i64 n, .slice A es.length cap]] u fun e w' => e = .returned (.bool false) ∧ Below u.heap.size u w') := fun u h => by
      rw [← hok]; exact specNetOk_any n A cap es u h.net.edges hl
    have c0 := ON.net.c0
    have c1 := ON.net.c1
    rw [HT.out]
    clear hok hes
    go_enter Try.func20, Try.ntmps20
    go_wp2_with fail
    refine (HN.out _ ON).mono ?_
    rintro e1 w1 ⟨rfl, hb1⟩
    have ON1 := ON.next hb1
    go_wp2_with fail
    go_returns
    exact ⟨some ⟨w.heap.size + 1, 0, none⟩, 0, rfl, ON1.own.more (by omega), ON1.net.below⟩
  | true =>
    have h9 := (netOkB_iff.1 hok).2.1
    have hn26 := (netOkB_iff.1 hok).1
    have HN : Hid (∀ u, OutTr w u n A cap es (.slice (some ⟨w.heap.size + 1, 0, none⟩) 0 0) [] → Calls Try.prog 52 #[.agg #[.int .i64 n, .slice A es.length cap]] u fun e w' => e = .returned (.bool true) ∧ Below u.heap.size u w') := fun u h => by
      rw [← hok]; exact specNetOk_any n A cap es u h.net.edges hl
    have HT : Hid (basesN n es = leastK' es (2 ^ es.length)) := by unfold Hid basesN; rw [hok]; rfl
    have HM : Hid (∀ s : Nat, s < 512 → ∀ u, Calls Try.prog 67 #[.int .i64 (s : Nat)] u fun e w' => e = .returned (.int .i64 (pop s)) ∧ u = w') := fun s hs u => l1Many_any s u (by omega)
    have HL : Hid (∀ s : Nat, s < 2 ^ es.length → ∀ u, ArgNet w u n A cap es → Calls Try.prog 66 #[.agg #[.int .i64 n, .slice A es.length cap], .int .i64 (s : Nat)] u fun e w' => e = .returned (.int .i64 (piecesB n es s : Nat)) ∧ Below u.heap.size u w') := fun s hs u h => l2Pieces_any n s A cap es u h.edges (state_of hok hs)
    have HV : Hid (∀ s : Nat, s < 2 ^ es.length → leastS es (s : Nat) = (decide ((piecesB n es s : Int) = (piecesB n es ((2 ^ es.length - 1 : Nat) : Int) : Nat)) && decide (n - (piecesB n es ((2 ^ es.length - 1 : Nat) : Int) : Nat) = (pop s : Nat))) ∧ pop s ≤ 9) := fun s hs => by
      have hS := state_of hok hs
      have ht : thereI n es s = pop s := by unfold thereI; rw [hS, if_pos rfl]; rfl
      have h3 := there_lt hS
      refine ⟨?_, by omega⟩
      have := leastS_pieces hS
      rwa [Int.toNat_natCast] at this
    have hM6 : piecesB n es ((2 ^ es.length - 1 : Nat) : Int) ≤ n.toNat := pcs_le _ _ _ _
    have HL0 := HL.out (2 ^ es.length - 1) (vall_lt _)
    have hlmin : min es.length 64 = es.length := by omega
    obtain ⟨P, hP, p1, p2, hp3, hp4⟩ := pow_named h9
    rw [hP] at HT HL HV HL0 hM6
    obtain ⟨Q, hQ⟩ : ∃ Q, P - 1 = Q := ⟨_, rfl⟩
    have wq : IntKind.i64.wrap ((P : Int) - 1) = (Q : Int) := by rw [IntWalk.i64_in _ (by omega)]; omega
    rw [hQ] at HV HL0 hM6
    obtain ⟨M, hM⟩ : ∃ M, piecesB n es ((Q : Nat) : Int) = M := ⟨_, rfl⟩
    rw [hM] at HV HL0 hM6
    have HL1 := Lib.hid HL0
    have wn : IntKind.i64.wrap (n - (M : Int)) = n - (M : Int) := IntWalk.i64_in _ (by omega)
    have c0 := ON.net.c0
    have c1 := ON.net.c1
    clear hok hes hP HL0 hM hQ
    go_enter Try.func20, Try.ntmps20
    go_wp2_with fail
    refine (HN.out _ ON).mono ?_
    rintro e1 w1 ⟨rfl, hb1⟩
    have ON1 := ON.next hb1
    clear ON hb1 c0 c1 HN
    go_wp2_with fail
    refine wp_region_class (fun u => OutTr w u n A cap es (.slice (some ⟨w.heap.size + 1, 0, none⟩) 0 0) []) (by kernel_rfl) (by kernel_rfl) ON1.drew ?_
    clear ON1
    intro X hX f hf hex
    have k0 : ∀ x, (f x).cell? ⟨w.heap.size, 0, none⟩ = some (.int .i64 n) := fun x => (hf x).net.c0
    have k1 : ∀ x, (f x).cell? ⟨w.heap.size, 1, none⟩ = some (.slice A es.length cap) := fun x => (hf x).net.c1
    repeat (go_big_quiet_step (first | (go_at_call 66; with_reducible exact class_of hex (HL1.out _ (hf _).net) (hf _).on)))
    refine wpQuiet_nil ?_
    rintro _ ⟨x, rfl⟩
    have ON1 := hf x
    generalize f x = W0 at *
    clear k0 k1 hf hex
    go_wp2_with fail
    go_loopw [3, 5] (fun v t wr => ∃ s : Nat, s ≤ P ∧ t = .int .i64 (s : Nat) ∧ OutTr w wr n A cap es v (natI (leastK' es s))) (fun _ t _ => P - (intOf t).toNat)
    case atStart => exact ⟨0, by omega, rfl, ON1⟩
    case round =>
      clear ON1
      obtain ⟨s, hs, rfl, ON⟩ := hrel
      have c0 := ON.net.c0
      have c1 := ON.net.c1
      by_cases hlt : s < P
      · obtain ⟨hv, hpop⟩ := HV.out s hlt
        have H1 := Lib.hid (HM.out s (by omega))
        have H2 := Lib.hid (HL.out s hlt)
        obtain ⟨z, hz⟩ : ∃ z, pop s = z := ⟨_, rfl⟩
        obtain ⟨y, hy⟩ : ∃ y, piecesB n es s = y := ⟨_, rfl⟩
        rw [hz, hy] at hv
        rw [hz] at H1 hpop
        rw [hy] at H2
        clear hz hy
        by_cases hy1 : y = M
        · subst hy1
          by_cases hzn : n - (y : Int) = (z : Int)
          · rw [decide_eq_true hzn] at hv
            have hhit : natI (leastK' es (s + 1)) = natI (leastK' es s) ++ [(s : Int)] := by rw [leastK'_hit (hv.trans (by simp)), natI_append]; rfl
            have HH := Lib.hid hhit
            clear hhit hv
            have hlen := leastK'_len es s
            rw [← natI_length] at hlen
            generalize natI (leastK' es s) = xs at *
            have hzb : (n - (y : Int) == (z : Int)) = true := beq_iff_eq.2 hzn
            clear hzn
            go_wp2_with fail
            refine wp_region_class (fun u => OutTr w u n A cap es u3 xs) (by kernel_rfl) (by kernel_rfl) ON.drew ?_
            clear ON c0 c1
            intro X hX f hf hex
            have k0 : ∀ x, (f x).cell? ⟨w.heap.size, 0, none⟩ = some (.int .i64 n) := fun x => (hf x).net.c0
            have k1 : ∀ x, (f x).cell? ⟨w.heap.size, 1, none⟩ = some (.slice A es.length cap) := fun x => (hf x).net.c1
            repeat (go_big_quiet_step (first | (go_at_call 67; with_reducible exact class_same (H1.out _)) | (go_at_call 66; with_reducible exact class_of hex (H2.out _ (hf _).net) (hf _).on)))
            refine wpQuiet_nil ?_
            rintro _ ⟨x, rfl⟩
            have ON := hf x
            generalize f x = W at *
            clear k0 k1 hf hex
            have hsz := ON.net.lt
            have own1 := ON.own
            obtain ⟨i0, hi0, hz0, hz1, hz2⟩ := info_parts int_info
            go_wp2_with (at_builtin; refine wpList_append_own _ rfl _ _ 33 rfl (w.heap.size + 1) 3 i0 (.int .i64 0) 1 8 Try.underlying33 hi0 hz0 hz1 hz2 rfl (by decide) _ _ _ rfl (own1.alloc _) ⟨W.heap.size, 0, none⟩ 1 1 [.int .i64 s] rfl rfl (one_cell s _ _) (by intro u hu; simp at hu; subst hu; rfl) (by unfold maxLen; omega) (by omega) (by simp; omega) ?_; intro v3 w3 hown3 hgrow _)
            have own3 : OwnI w3 (w.heap.size + 1) v3 (natI (leastK' es (s + 1))) := by rw [HH.out]; unfold OwnI; rw [List.length_append, ints_append]; exact hown3
            have hb3 : Below (w.heap.size + 1) W w3 := ((Below.refl (w.heap.size + 1) W).alloc (by omega) _).grown hgrow (by simp; omega) (fun j hj => own1.ge j hj)
            have ON3 : OutTr w w3 n A cap es v3 (natI (leastK' es (s + 1))) := ⟨ON.net.step hb3 (by omega), own3⟩
            clear hown3 hgrow own3 hb3 own1 ON
            go_roundw
            case rel => exact ⟨s + 1, by omega, by go_num, ON3⟩
            case measure => simp [intOf]; omega
          · have hmiss : leastK' es (s + 1) = leastK' es s := leastK'_miss (hv.trans (by rw [decide_eq_false hzn]; simp))
            have hne : (n - (y : Int) == (z : Int)) = false := beq_eq_false_iff_ne.2 hzn
            rw [← hmiss] at ON
            clear hmiss hv
            obtain ⟨xs, hxs⟩ : ∃ xs, natI (leastK' es (s + 1)) = xs := ⟨_, rfl⟩
            rw [hxs] at ON
            have HX := Lib.hid hxs
            clear hxs
            go_wp2_with fail
            refine wp_region_class (fun u => OutTr w u n A cap es u3 xs) (by kernel_rfl) (by kernel_rfl) ON.drew ?_
            clear ON c0 c1
            intro X hX f hf hex
            have k0 : ∀ x, (f x).cell? ⟨w.heap.size, 0, none⟩ = some (.int .i64 n) := fun x => (hf x).net.c0
            have k1 : ∀ x, (f x).cell? ⟨w.heap.size, 1, none⟩ = some (.slice A es.length cap) := fun x => (hf x).net.c1
            repeat (go_big_quiet_step (first | (go_at_call 67; with_reducible exact class_same (H1.out _)) | (go_at_call 66; with_reducible exact class_of hex (H2.out _ (hf _).net) (hf _).on)))
            refine wpQuiet_nil ?_
            rintro _ ⟨x, rfl⟩
            have ON := hf x
            clear k0 k1
            go_wp2_with fail
            go_roundw
            case rel => exact ⟨s + 1, by omega, by go_num, by rw [HX.out]; exact ON⟩
            case measure => simp [intOf]; omega
        · have hmiss : leastK' es (s + 1) = leastK' es s := leastK'_miss (hv.trans (by rw [decide_eq_false (by omega)]; rfl))
          have hne : ((y : Int) == (M : Int)) = false := beq_eq_false_iff_ne.2 (by omega)
          rw [← hmiss] at ON
          clear hmiss hv
          obtain ⟨xs, hxs⟩ : ∃ xs, natI (leastK' es (s + 1)) = xs := ⟨_, rfl⟩
          rw [hxs] at ON
          have HX := Lib.hid hxs
          clear hxs
          go_wp2_with fail
          refine wp_region_class (fun u => OutTr w u n A cap es u3 xs) (by kernel_rfl) (by kernel_rfl) ON.drew ?_
          clear ON c0 c1
          intro X hX f hf hex
          have k0 : ∀ x, (f x).cell? ⟨w.heap.size, 0, none⟩ = some (.int .i64 n) := fun x => (hf x).net.c0
          have k1 : ∀ x, (f x).cell? ⟨w.heap.size, 1, none⟩ = some (.slice A es.length cap) := fun x => (hf x).net.c1
          repeat (go_big_quiet_step (first | (go_at_call 67; with_reducible exact class_same (H1.out _)) | (go_at_call 66; with_reducible exact class_of hex (H2.out _ (hf _).net) (hf _).on)))
          refine wpQuiet_nil ?_
          rintro _ ⟨x, rfl⟩
          have ON := hf x
          clear k0 k1
          go_wp2_with fail
          go_roundw
          case rel => exact ⟨s + 1, by omega, by go_num, by rw [HX.out]; exact ON⟩
          case measure => simp [intOf]; omega
      · obtain rfl : s = P := by omega
        rw [← HT.out] at ON
        obtain ⟨xs, hxs⟩ : ∃ xs, natI (basesN n es) = xs := ⟨_, rfl⟩
        rw [hxs] at ON
        have HX := Lib.hid hxs
        have own := ON.own
        have hbel := ON.net.below
        clear ON hxs
        rcases own.form with ⟨rfl, rfl⟩ | ⟨g, c, rfl, _, _⟩
        · go_wp2_with fail
          go_returns
          exact ⟨none, 0, by rw [HX.out]; rfl, by rw [HX.out]; exact own.more (show w.heap.size ≤ w.heap.size + 1 by omega), hbel⟩
        · go_wp2_with fail
          go_returns
          exact ⟨some ⟨g, 0, none⟩, c, by rw [HX.out]; rfl, by rw [HX.out]; exact own.more (show w.heap.size ≤ w.heap.size + 1 by omega), hbel⟩
end Go.Proofs.Ytdacfeebidhgnaa

/- Chapter 11 of the reference: ActiveOf. -/
namespace Go.Proofs.Ytdacfeebidhgnaa
open Go.RowKit
set_option maxRecDepth 100000

set_option maxHeartbeats 8000000 in
theorem l11First_any (n : Int) (s k : Nat) (A : Option Addr) (cap : Nat) (es : List (Int × Int)) (w : World) (hes : EdgesIn w w.heap.size A es) (hn : netOkB n es = true) (hs : s < 2 ^ es.length) (hb : leastS es (s : Nat) = true) (hk : k < es.length) :
    Calls Try.prog 74 #[.agg #[.int .i64 n, .slice A es.length cap], .int .i64 (s : Nat), .int .i64 (k : Nat)] w fun e w' => e = .returned (.bool (firstV es s k)) ∧ Below w.heap.size w w' := by
  have h9 := (netOkB_iff.1 hn).2.1
  have L0 := ArgNet.start (cap := cap) (n := n) 29 hes
  have hs5 : s < 512 := Nat.lt_of_lt_of_le hs (Nat.pow_le_pow_right (n := 2) (by omega) h9)
  have HL : Hid (∀ t : Nat, t < 2 ^ es.length → ∀ u, ArgNet w u n A cap es → Calls Try.prog 66 #[.agg #[.int .i64 n, .slice A es.length cap], .int .i64 (t : Nat)] u fun e w' => e = .returned (.int .i64 (piecesB n es t : Nat)) ∧ Below u.heap.size u w') := fun t ht u h => l2Pieces_any n t A cap es u h.edges (state_of hn ht)
  have HX : Hid (∀ j, j < k → baseB (endsL es) (fun x => x) (flipT (flipT (bits (s : Nat)) k) j) = ((s.testBit k != s.testBit j) && decide ((piecesB n es (((s ^^^ 2 ^ k) ^^^ 2 ^ j : Nat) : Int) : Int) = (piecesB n es (s : Nat) : Nat)))) := fun j hj => leastS_exch hn hs hk hj hb
  have HXL : Hid (∀ j, j < k → (s ^^^ 2 ^ k) ^^^ 2 ^ j < 2 ^ es.length ∧ s ^^^ 2 ^ k < 512) := fun j hj => by
    have h1 := xor_lt hs hk
    exact ⟨xor_lt h1 (by omega), Nat.lt_of_lt_of_le h1 (Nat.pow_le_pow_right (n := 2) (by omega) h9)⟩
  have HNO : Hid (∀ j, j < k → baseB (endsL es) (fun x => x) (flipT (flipT (bits (s : Nat)) k) j) = true → firstV es s k = false) := fun j hj h => firstV_no hj h
  have HYE : Hid ((∀ j, j < k → baseB (endsL es) (fun x => x) (flipT (flipT (bits (s : Nat)) k) j) = false) → firstV es s k = true) := firstV_yes
  have HS := Lib.hid (HL.out s hs)
  obtain ⟨M, hM⟩ : ∃ M, piecesB n es ((s : Nat) : Int) = M := ⟨_, rfl⟩
  rw [hM] at HX HS
  have hkmin : min k 64 = k := by omega
  have hbk := bit_tmod s k
  have k8 : k ≤ 8 := by omega
  have hxk : Hid (s.testBit k = true → s ^^^ 2 ^ k = s - 2 ^ k ∧ 2 ^ k ≤ s) := fun h => xor_sub hs5 (Nat.lt_succ_of_le k8) h
  have hxk' : Hid (s.testBit k = false → s ^^^ 2 ^ k = s + 2 ^ k) := fun h => xor_add hs5 (Nat.lt_succ_of_le k8) h
  obtain ⟨tk, htk⟩ : ∃ tk, s.testBit k = tk := ⟨_, rfl⟩
  have HT : Hid (∀ j, (s ^^^ 2 ^ k).testBit j = (s.testBit j != decide (k = j))) := fun j => by rw [Nat.testBit_xor, Nat.testBit_two_pow]
  obtain ⟨r, hr⟩ : ∃ r, s ^^^ 2 ^ k = r := ⟨_, rfl⟩
  rw [hr] at HX HXL hxk hxk' HT
  rw [htk] at HX hbk hxk hxk'
  obtain ⟨P, hP, ⟨p1, p2⟩, hp3, hp4⟩ := pow_named8 k8
  have HP3 := Lib.hid hp3
  have HP4 := Lib.hid hp4
  clear hp3 hp4
  rw [hP] at hxk hxk'
  clear hM hes hn hs hb hr htk hP
  obtain ⟨_, _, c0, c1, s0⟩ := id L0
  go_enter Try.func74, Try.ntmps74
  go_wp2_with fail
  refine (HS.out _ L0).mono ?_
  rintro e1 w1 ⟨rfl, hb1⟩
  have L1 := L0.on _ hb1
  clear c0 c1 s0 L0 hb1
  go_wp2_with fail
  go_loopw [8] (fun t wr => ∃ j : Nat, j ≤ k ∧ t = .int .i64 (j : Nat) ∧ Hid (∀ i, i < j → baseB (endsL es) (fun x => x) (flipT (flipT (bits (s : Nat)) k) i) = false) ∧ ArgNet w wr n A cap es) (fun t _ => k - (intOf t).toNat)
  case atStart => exact ⟨0, by omega, rfl, fun i hi => by omega, L1⟩
  case round =>
    clear L1
    obtain ⟨j, hj, rfl, HJ, L⟩ := hrel
    by_cases hlt : j < k
    · have hv := Lib.hid (HX.out j hlt)
      obtain ⟨hx1, hx2⟩ := HXL.out j hlt
      have HC := Lib.hid (HL.out (r ^^^ 2 ^ j) hx1)
      have HNO' := Lib.hid (HNO.out j hlt)
      have j8 : j ≤ 8 := Nat.le_trans (Nat.le_of_lt hlt) k8
      have hbj := bit_tmod s j
      have hTj := HT.out j
      rw [decide_eq_false (Nat.ne_of_gt hlt)] at hTj
      have hxj : Hid (r.testBit j = true → r ^^^ 2 ^ j = r - 2 ^ j ∧ 2 ^ j ≤ r) := fun h => xor_sub hx2 (Nat.lt_succ_of_le j8) h
      have hxj' : Hid (r.testBit j = false → r ^^^ 2 ^ j = r + 2 ^ j) := fun h => xor_add hx2 (Nat.lt_succ_of_le j8) h
      have hjmin : min j 64 = j := Nat.min_eq_left (Nat.le_trans j8 (by decide))
      obtain ⟨z, hz⟩ : ∃ z, r ^^^ 2 ^ j = z := ⟨_, rfl⟩
      rw [hz] at hv HC hxj hxj'
      obtain ⟨y, hy⟩ : ∃ y, piecesB n es ((z : Nat) : Int) = y := ⟨_, rfl⟩
      rw [hy] at hv HC
      obtain ⟨P2, hP2, ⟨p21, p22⟩, hp23, hp24⟩ := pow_named8 j8
      have HP23 := Lib.hid hp23
      have HP24 := Lib.hid hp24
      clear hp23 hp24
      rw [hP2] at hxj hxj'
      clear hx1 hz hy hP2
      have HJ2 : Hid (baseB (endsL es) (fun x => x) (flipT (flipT (bits (s : Nat)) k) j) = false → ∀ i, i < j + 1 → baseB (endsL es) (fun x => x) (flipT (flipT (bits (s : Nat)) k) i) = false) := fun hv i hi => by
        by_cases e : i = j
        · subst e; exact hv
        · exact HJ.out i (by omega)
      clear HJ HXL HL HX HT
      obtain ⟨tj, htj⟩ : ∃ tj, s.testBit j = tj := ⟨_, rfl⟩
      rw [htj] at hv hbj hTj
      simp only [Bool.bne_false] at hTj
      clear htj
      generalize baseB (endsL es) (fun x => x) (flipT (flipT (bits (s : Nat)) k) j) = bv at *
      cases tk with
      | false =>
        have hrv := hxk'.out rfl
        rw [if_neg (by simp)] at hbk
        cases tj with
        | false =>
          have hbv : bv = false := hv.out.trans (by simp)
          have HJ3 := Lib.hid (HJ2.out hbv)
          rw [if_neg (by simp)] at hbj
          clear hv HJ2 HNO' HNO HYE HS hxk hxk' hxj hxj' hx2 hs5 hrv p1 p2 p21 p22 HC HP3 HP4 HP23 HP24 h9
          go_wp2_with fail
          obtain ⟨_, _, c0, c1, s0⟩ := id L
          refine wp_region_class (fun u => ArgNet w u n A cap es) (by kernel_rfl) (by kernel_rfl) L.drew ?_
          clear L c0 c1 s0
          intro X hX f hf hex
          have k0 : ∀ x, (f x).cell? ⟨w.heap.size, 0, none⟩ = some (.int .i64 n) := fun x => (hf x).c0
          have k1 : ∀ x, (f x).cell? ⟨w.heap.size, 1, none⟩ = some (.slice A es.length cap) := fun x => (hf x).c1
          repeat (go_big_quiet_step (first | (go_at_call 66; with_reducible exact class_of hex (HC.out _ (hf _)) (hf _).on)))
          refine wpQuiet_nil ?_
          rintro _ ⟨x, rfl⟩
          have L := hf x
          generalize f x = W9 at *
          clear k0 k1 hf hex
          go_wp2_with fail
          obtain ⟨_, _, c0, c1, s0⟩ := id L
          refine wp_region_class (fun u => ArgNet w u n A cap es) (by kernel_rfl) (by kernel_rfl) L.drew ?_
          clear L c0 c1 s0
          intro X2 hX2 f hf hex
          have k0 : ∀ x, (f x).cell? ⟨w.heap.size, 0, none⟩ = some (.int .i64 n) := fun x => (hf x).c0
          have k1 : ∀ x, (f x).cell? ⟨w.heap.size, 1, none⟩ = some (.slice A es.length cap) := fun x => (hf x).c1
          repeat (go_big_quiet_step (first | (go_at_call 66; with_reducible exact class_of hex (HC.out _ (hf _)) (hf _).on)))
          refine wpQuiet_nil ?_
          rintro _ ⟨x, rfl⟩
          have L := hf x
          generalize f x = W9 at *
          clear k0 k1 hf hex
          go_wp2_with fail
          go_roundw
          case rel => exact ⟨j + 1, by omega, by go_num, HJ3, L⟩
          case measure => simp [intOf]; omega
        | true =>
          obtain ⟨hzv, hzl⟩ := hxj.out (hTj)
          have w1 : IntKind.i64.wrap ((s : Int) + (P : Int)) = (r : Int) := wrap_up hrv hs5 p2
          have w2 : IntKind.i64.wrap ((r : Int) - (P2 : Int)) = (z : Int) := wrap_down hzv hzl (Nat.lt_of_lt_of_le hx2 (by decide))
          rw [if_pos rfl] at hbj
          by_cases hyM : y = M
          · subst hyM
            have hbv : bv = true := hv.out.trans (by simp)
            have HN9 := Lib.hid (HNO'.out hbv)
            clear hv HJ2 HNO' HNO HYE HS hxk hxk' hxj hxj' hx2 hs5 p1 p2 p21 p22 h9 hrv hzv
            go_wp2_with fail
            have hp3 := HP3.out
            have hp4 := HP4.out
            have hp23 := HP23.out
            have hp24 := HP24.out
            obtain ⟨_, _, c0, c1, s0⟩ := id L
            refine wp_region_class (fun u => ArgNet w u n A cap es) (by kernel_rfl) (by kernel_rfl) L.drew ?_
            clear L c0 c1 s0
            intro X hX f hf hex
            have k0 : ∀ x, (f x).cell? ⟨w.heap.size, 0, none⟩ = some (.int .i64 n) := fun x => (hf x).c0
            have k1 : ∀ x, (f x).cell? ⟨w.heap.size, 1, none⟩ = some (.slice A es.length cap) := fun x => (hf x).c1
            repeat (go_big_quiet_step (first | (go_at_call 66; with_reducible exact class_of hex (HC.out _ (hf _)) (hf _).on)))
            refine wpQuiet_nil ?_
            rintro _ ⟨x, rfl⟩
            have L := hf x
            generalize f x = W9 at *
            clear k0 k1 hf hex
            clear hp3 hp4 hp23 hp24
            go_wp2_with fail
            go_returns
            exact ⟨retB HN9.out.symm, L.below⟩
          · have hne : ((y : Int) == (M : Int)) = false := eq_ff hyM
            have hbv : bv = false := hv.out.trans (exch_no hyM _ _)
            have HJ3 := Lib.hid (HJ2.out hbv)
            clear hv HJ2 HNO' HNO HYE HS hxk hxk' hxj hxj' hx2 hs5 p1 p2 p21 p22 h9 hrv hzv
            go_wp2_with fail
            have hp3 := HP3.out
            have hp4 := HP4.out
            have hp23 := HP23.out
            have hp24 := HP24.out
            obtain ⟨_, _, c0, c1, s0⟩ := id L
            refine wp_region_class (fun u => ArgNet w u n A cap es) (by kernel_rfl) (by kernel_rfl) L.drew ?_
            clear L c0 c1 s0
            intro X hX f hf hex
            have k0 : ∀ x, (f x).cell? ⟨w.heap.size, 0, none⟩ = some (.int .i64 n) := fun x => (hf x).c0
            have k1 : ∀ x, (f x).cell? ⟨w.heap.size, 1, none⟩ = some (.slice A es.length cap) := fun x => (hf x).c1
            repeat (go_big_quiet_step (first | (go_at_call 66; with_reducible exact class_of hex (HC.out _ (hf _)) (hf _).on)))
            refine wpQuiet_nil ?_
            rintro _ ⟨x, rfl⟩
            have L := hf x
            generalize f x = W9 at *
            clear k0 k1 hf hex
            clear hp3 hp4 hp23 hp24
            go_wp2_with fail
            obtain ⟨_, _, c0, c1, s0⟩ := id L
            refine wp_region_class (fun u => ArgNet w u n A cap es) (by kernel_rfl) (by kernel_rfl) L.drew ?_
            clear L c0 c1 s0
            intro X2 hX2 f hf hex
            have k0 : ∀ x, (f x).cell? ⟨w.heap.size, 0, none⟩ = some (.int .i64 n) := fun x => (hf x).c0
            have k1 : ∀ x, (f x).cell? ⟨w.heap.size, 1, none⟩ = some (.slice A es.length cap) := fun x => (hf x).c1
            repeat (go_big_quiet_step (first | (go_at_call 66; with_reducible exact class_of hex (HC.out _ (hf _)) (hf _).on)))
            refine wpQuiet_nil ?_
            rintro _ ⟨x, rfl⟩
            have L := hf x
            generalize f x = W9 at *
            clear k0 k1 hf hex
            go_wp2_with fail
            go_roundw
            case rel => exact ⟨j + 1, by omega, by go_num, HJ3, L⟩
            case measure => simp [intOf]; omega
      | true =>
        obtain ⟨hrv, hrl⟩ := hxk.out rfl
        rw [if_pos rfl] at hbk
        cases tj with
        | true =>
          have hbv : bv = false := hv.out.trans (by simp)
          have HJ3 := Lib.hid (HJ2.out hbv)
          rw [if_pos rfl] at hbj
          clear hv HJ2 HNO' HNO HYE HS hxk hxk' hxj hxj' hx2 hs5 hrv p1 p2 p21 p22 HC HP3 HP4 HP23 HP24 h9
          go_wp2_with fail
          obtain ⟨_, _, c0, c1, s0⟩ := id L
          refine wp_region_class (fun u => ArgNet w u n A cap es) (by kernel_rfl) (by kernel_rfl) L.drew ?_
          clear L c0 c1 s0
          intro X hX f hf hex
          have k0 : ∀ x, (f x).cell? ⟨w.heap.size, 0, none⟩ = some (.int .i64 n) := fun x => (hf x).c0
          have k1 : ∀ x, (f x).cell? ⟨w.heap.size, 1, none⟩ = some (.slice A es.length cap) := fun x => (hf x).c1
          repeat (go_big_quiet_step (first | (go_at_call 66; with_reducible exact class_of hex (HC.out _ (hf _)) (hf _).on)))
          refine wpQuiet_nil ?_
          rintro _ ⟨x, rfl⟩
          have L := hf x
          generalize f x = W9 at *
          clear k0 k1 hf hex
          go_wp2_with fail
          obtain ⟨_, _, c0, c1, s0⟩ := id L
          refine wp_region_class (fun u => ArgNet w u n A cap es) (by kernel_rfl) (by kernel_rfl) L.drew ?_
          clear L c0 c1 s0
          intro X2 hX2 f hf hex
          have k0 : ∀ x, (f x).cell? ⟨w.heap.size, 0, none⟩ = some (.int .i64 n) := fun x => (hf x).c0
          have k1 : ∀ x, (f x).cell? ⟨w.heap.size, 1, none⟩ = some (.slice A es.length cap) := fun x => (hf x).c1
          repeat (go_big_quiet_step (first | (go_at_call 66; with_reducible exact class_of hex (HC.out _ (hf _)) (hf _).on)))
          refine wpQuiet_nil ?_
          rintro _ ⟨x, rfl⟩
          have L := hf x
          generalize f x = W9 at *
          clear k0 k1 hf hex
          go_wp2_with fail
          go_roundw
          case rel => exact ⟨j + 1, by omega, by go_num, HJ3, L⟩
          case measure => simp [intOf]; omega
        | false =>
          have hzv := hxj'.out (hTj)
          have w1 : IntKind.i64.wrap ((s : Int) - (P : Int)) = (r : Int) := wrap_down hrv hrl (Nat.lt_of_lt_of_le hs5 (by decide))
          have w2 : IntKind.i64.wrap ((r : Int) + (P2 : Int)) = (z : Int) := wrap_up hzv hx2 p22
          rw [if_neg (by simp)] at hbj
          by_cases hyM : y = M
          · subst hyM
            have hbv : bv = true := hv.out.trans (by simp)
            have HN9 := Lib.hid (HNO'.out hbv)
            clear hv HJ2 HNO' HNO HYE HS hxk hxk' hxj hxj' hx2 hs5 p1 p2 p21 p22 h9 hrv hzv
            go_wp2_with fail
            obtain ⟨_, _, c0, c1, s0⟩ := id L
            refine wp_region_class (fun u => ArgNet w u n A cap es) (by kernel_rfl) (by kernel_rfl) L.drew ?_
            clear L c0 c1 s0
            intro X hX f hf hex
            have k0 : ∀ x, (f x).cell? ⟨w.heap.size, 0, none⟩ = some (.int .i64 n) := fun x => (hf x).c0
            have k1 : ∀ x, (f x).cell? ⟨w.heap.size, 1, none⟩ = some (.slice A es.length cap) := fun x => (hf x).c1
            repeat (go_big_quiet_step (first | (go_at_call 66; with_reducible exact class_of hex (HC.out _ (hf _)) (hf _).on)))
            refine wpQuiet_nil ?_
            rintro _ ⟨x, rfl⟩
            have L := hf x
            generalize f x = W9 at *
            clear k0 k1 hf hex
            go_wp2_with fail
            have hp3 := HP3.out
            have hp4 := HP4.out
            have hp23 := HP23.out
            have hp24 := HP24.out
            obtain ⟨_, _, c0, c1, s0⟩ := id L
            refine wp_region_class (fun u => ArgNet w u n A cap es) (by kernel_rfl) (by kernel_rfl) L.drew ?_
            clear L c0 c1 s0
            intro X2 hX2 f hf hex
            have k0 : ∀ x, (f x).cell? ⟨w.heap.size, 0, none⟩ = some (.int .i64 n) := fun x => (hf x).c0
            have k1 : ∀ x, (f x).cell? ⟨w.heap.size, 1, none⟩ = some (.slice A es.length cap) := fun x => (hf x).c1
            repeat (go_big_quiet_step (first | (go_at_call 66; with_reducible exact class_of hex (HC.out _ (hf _)) (hf _).on)))
            refine wpQuiet_nil ?_
            rintro _ ⟨x, rfl⟩
            have L := hf x
            generalize f x = W9 at *
            clear k0 k1 hf hex
            clear hp3 hp4 hp23 hp24
            go_wp2_with fail
            go_returns
            exact ⟨retB HN9.out.symm, L.below⟩
          · have hne : ((y : Int) == (M : Int)) = false := eq_ff hyM
            have hbv : bv = false := hv.out.trans (exch_no hyM _ _)
            have HJ3 := Lib.hid (HJ2.out hbv)
            clear hv HJ2 HNO' HNO HYE HS hxk hxk' hxj hxj' hx2 hs5 p1 p2 p21 p22 h9 hrv hzv
            go_wp2_with fail
            obtain ⟨_, _, c0, c1, s0⟩ := id L
            refine wp_region_class (fun u => ArgNet w u n A cap es) (by kernel_rfl) (by kernel_rfl) L.drew ?_
            clear L c0 c1 s0
            intro X hX f hf hex
            have k0 : ∀ x, (f x).cell? ⟨w.heap.size, 0, none⟩ = some (.int .i64 n) := fun x => (hf x).c0
            have k1 : ∀ x, (f x).cell? ⟨w.heap.size, 1, none⟩ = some (.slice A es.length cap) := fun x => (hf x).c1
            repeat (go_big_quiet_step (first | (go_at_call 66; with_reducible exact class_of hex (HC.out _ (hf _)) (hf _).on)))
            refine wpQuiet_nil ?_
            rintro _ ⟨x, rfl⟩
            have L := hf x
            generalize f x = W9 at *
            clear k0 k1 hf hex
            go_wp2_with fail
            have hp3 := HP3.out
            have hp4 := HP4.out
            have hp23 := HP23.out
            have hp24 := HP24.out
            obtain ⟨_, _, c0, c1, s0⟩ := id L
            refine wp_region_class (fun u => ArgNet w u n A cap es) (by kernel_rfl) (by kernel_rfl) L.drew ?_
            clear L c0 c1 s0
            intro X2 hX2 f hf hex
            have k0 : ∀ x, (f x).cell? ⟨w.heap.size, 0, none⟩ = some (.int .i64 n) := fun x => (hf x).c0
            have k1 : ∀ x, (f x).cell? ⟨w.heap.size, 1, none⟩ = some (.slice A es.length cap) := fun x => (hf x).c1
            repeat (go_big_quiet_step (first | (go_at_call 66; with_reducible exact class_of hex (HC.out _ (hf _)) (hf _).on)))
            refine wpQuiet_nil ?_
            rintro _ ⟨x, rfl⟩
            have L := hf x
            generalize f x = W9 at *
            clear k0 k1 hf hex
            clear hp3 hp4 hp23 hp24
            go_wp2_with fail
            go_roundw
            case rel => exact ⟨j + 1, by omega, by go_num, HJ3, L⟩
            case measure => simp [intOf]; omega
    · obtain rfl : j = k := by omega
      have HY9 := Lib.hid (HYE.out HJ.out)
      clear HYE HJ
      go_wp2_with fail
      go_returns
      exact ⟨retB HY9.out.symm, L.below⟩
end Go.Proofs.Ytdacfeebidhgnaa

/- Chapter 11 of the reference: ActiveOf. -/
namespace Go.Proofs.Ytdacfeebidhgnaa
open Go.RowKit
set_option maxRecDepth 100000

theorem card_hit {p : Nat → Bool} {k : Nat} (h : p k = true) : card p (k + 1) = card p k + 1 := by rw [card, if_pos h]
theorem card_miss {p : Nat → Bool} {k : Nat} (h : p k = false) : card p (k + 1) = card p k := by rw [card, if_neg (by rw [h]; simp)]; rfl

set_option maxHeartbeats 8000000 in
theorem specActiveOf_any (n s : Int) (A : Option Addr) (cap : Nat) (es : List (Int × Int)) (w : World) (hes : EdgesIn w w.heap.size A es) (hl : es.length ≤ 1048576) :
    Calls Try.prog 26 #[.agg #[.int .i64 n, .slice A es.length cap], .int .i64 s] w fun e w' => e = .returned (.tuple #[.int .i64 (actIn n es s), .int .i64 (actOut n es s), .bool (leastV n es s)]) ∧ Below w.heap.size w w' := by
  have L0 := ArgNet.start (cap := cap) (n := n) 29 hes
  have HN : Hid (∀ u, ArgNet w u n A cap es → Calls Try.prog 73 #[.agg #[.int .i64 n, .slice A es.length cap], .int .i64 s] u fun e w' => e = .returned (.bool (stateOkB n es s)) ∧ Below u.heap.size u w') := fun u h => specStateOk_any n s A cap es u h.edges hl
  obtain ⟨_, _, c0, c1, s0⟩ := id L0
  cases hok : stateOkB n es s with
  | false =>
    have HL : Hid (leastV n es s = false) := by unfold Hid leastV; rw [hok]; rfl
    have HI : Hid (actIn n es s = -1) := if_neg (by rw [HL.out]; simp)
    have HO : Hid (actOut n es s = -1) := if_neg (by rw [HL.out]; simp)
    rw [HI.out, HO.out, HL.out]
    rw [hok] at HN
    clear hok hes
    go_enter Try.func26, Try.ntmps26
    go_wp2_with fail
    refine (HN.out _ L0).mono ?_
    rintro e1 w1 ⟨rfl, hb1⟩
    have L1 := L0.on _ hb1
    go_wp2_with fail
    go_returns
    exact ⟨by first | rfl | simp, L1.below⟩
  | true =>
    have hn := stateOkB_net hok
    have h9 := (netOkB_iff.1 hn).2.1
    have hn26 := (netOkB_iff.1 hn).1
    have hlv : leastV n es s = leastS es s := by unfold leastV; rw [hok, Bool.true_and]
    have hlp := leastS_pieces hok
    obtain ⟨m, rfl, hm, hm5⟩ := state_nat hok
    rw [Int.toNat_natCast] at hlp
    have HL : Hid (∀ t : Nat, t < 2 ^ es.length → ∀ u, ArgNet w u n A cap es → Calls Try.prog 66 #[.agg #[.int .i64 n, .slice A es.length cap], .int .i64 (t : Nat)] u fun e w' => e = .returned (.int .i64 (piecesB n es t : Nat)) ∧ Below u.heap.size u w') := fun t ht u h => l2Pieces_any n t A cap es u h.edges (state_of hn ht)
    have HM : Hid (∀ u, Calls Try.prog 67 #[.int .i64 (m : Nat)] u fun e w' => e = .returned (.int .i64 (pop m)) ∧ u = w') := fun u => l1Many_any m u (Nat.lt_trans hm5 (by decide))
    have HS := Lib.hid (HL.out m hm)
    have HA := HL.out (2 ^ es.length - 1) (vall_lt _)
    have hM6 : piecesB n es ((2 ^ es.length - 1 : Nat) : Int) ≤ n.toNat := pcs_le _ _ _ _
    have HF : Hid (leastS es (m : Nat) = true → ∀ k, k < es.length → ∀ u, ArgNet w u n A cap es → Calls Try.prog 74 #[.agg #[.int .i64 n, .slice A es.length cap], .int .i64 (m : Nat), .int .i64 (k : Nat)] u fun e w' => e = .returned (.bool (firstV es m k)) ∧ Below u.heap.size u w') := fun hb k hk u h => l11First_any n m k A cap es u h.edges hn hm hb hk
    have hlmin : min es.length 64 = es.length := Nat.min_eq_left (Nat.le_trans h9 (by decide))
    obtain ⟨P, hP, p1, p2, hp3, hp4⟩ := pow_named h9
    rw [hP] at HA hM6 hlp
    obtain ⟨Q, hQ⟩ : ∃ Q, P - 1 = Q := ⟨_, rfl⟩
    have wq := wrap_pred hQ p1 p2
    rw [hQ] at HA hM6 hlp
    obtain ⟨M, hM⟩ : ∃ M, piecesB n es ((Q : Nat) : Int) = M := ⟨_, rfl⟩
    rw [hM] at HA hM6 hlp
    have HA := Lib.hid HA
    have wn := wrap_left hn26 hM6
    obtain ⟨y, hy⟩ : ∃ y, piecesB n es ((m : Nat) : Int) = y := ⟨_, rfl⟩
    obtain ⟨z, hz⟩ : ∃ z, pop m = z := ⟨_, rfl⟩
    rw [hy] at HS hlp
    rw [hz] at HM hlp
    rw [hok] at HN
    clear hes hP hM hQ hy hz hok hm hn HL
    cases hv : leastS es ((m : Nat) : Int) with
    | false =>
      have HLV : Hid (leastV n es (m : Nat) = false) := hlv.trans hv
      have HI : Hid (actIn n es (m : Nat) = -1) := if_neg (by rw [HLV.out]; simp)
      have HO : Hid (actOut n es (m : Nat) = -1) := if_neg (by rw [HLV.out]; simp)
      rw [HI.out, HO.out, HLV.out]
      rw [hv] at hlp
      clear hlv hv HF
      by_cases hyM : y = M
      · have hzn : ¬ (n - (M : Int) = (z : Int)) := fun h => by rw [decide_eq_true h, decide_eq_true (congrArg (fun q : Nat => (q : Int)) hyM)] at hlp; cases hlp
        have hne : (n - (M : Int) == (z : Int)) = false := beq_eq_false_iff_ne.2 hzn
        have hnn : (n - (M : Int) != (z : Int)) = true := by unfold bne; rw [hne]; rfl
        subst hyM
        clear hlp
        go_enter Try.func26, Try.ntmps26
        go_wp2_with fail
        refine (HN.out _ L0).mono ?_
        rintro e1 w1 ⟨rfl, hb1⟩
        have L1 := L0.on _ hb1
        clear c0 c1 s0 L0 hb1
        go_wp2_with fail
        refine wp_region_class (fun u => ArgNet w u n A cap es) (by kernel_rfl) (by kernel_rfl) L1.drew ?_
        clear L1
        intro X hX f hf hex
        have k0 : ∀ x, (f x).cell? ⟨w.heap.size, 0, none⟩ = some (.int .i64 n) := fun x => (hf x).c0
        have k1 : ∀ x, (f x).cell? ⟨w.heap.size, 1, none⟩ = some (.slice A es.length cap) := fun x => (hf x).c1
        repeat (go_big_quiet_step (first | (go_at_call 66; with_reducible exact class_of hex (HA.out _ (hf _)) (hf _).on)))
        refine wpQuiet_nil ?_
        rintro _ ⟨x, rfl⟩
        have L1 := hf x
        generalize f x = W0 at *
        clear k0 k1 hf hex hp3 hp4
        go_wp2_with fail
        refine wp_region_class (fun u => ArgNet w u n A cap es) (by kernel_rfl) (by kernel_rfl) L1.drew ?_
        clear L1
        intro X2 hX2 f hf hex
        have k0 : ∀ x, (f x).cell? ⟨w.heap.size, 0, none⟩ = some (.int .i64 n) := fun x => (hf x).c0
        have k1 : ∀ x, (f x).cell? ⟨w.heap.size, 1, none⟩ = some (.slice A es.length cap) := fun x => (hf x).c1
        repeat (go_big_quiet_step (first | (go_at_call 67; with_reducible exact class_same (HM.out _)) | (go_at_call 66; with_reducible exact class_of hex (HS.out _ (hf _)) (hf _).on)))
        refine wpQuiet_nil ?_
        rintro _ ⟨x, rfl⟩
        have L9 := hf x
        generalize f x = W9 at *
        clear k0 k1 hf hex
        go_wp2_with fail
        go_returns
        exact ⟨by first | rfl | simp, L9.below⟩
      · have hne : ((y : Int) == (M : Int)) = false := eq_ff hyM
        have hnn : ((y : Int) != (M : Int)) = true := by unfold bne; rw [hne]; rfl
        clear hlp
        go_enter Try.func26, Try.ntmps26
        go_wp2_with fail
        refine (HN.out _ L0).mono ?_
        rintro e1 w1 ⟨rfl, hb1⟩
        have L1 := L0.on _ hb1
        clear c0 c1 s0 L0 hb1
        go_wp2_with fail
        refine wp_region_class (fun u => ArgNet w u n A cap es) (by kernel_rfl) (by kernel_rfl) L1.drew ?_
        clear L1
        intro X hX f hf hex
        have k0 : ∀ x, (f x).cell? ⟨w.heap.size, 0, none⟩ = some (.int .i64 n) := fun x => (hf x).c0
        have k1 : ∀ x, (f x).cell? ⟨w.heap.size, 1, none⟩ = some (.slice A es.length cap) := fun x => (hf x).c1
        repeat (go_big_quiet_step (first | (go_at_call 66; with_reducible exact class_of hex (HA.out _ (hf _)) (hf _).on)))
        refine wpQuiet_nil ?_
        rintro _ ⟨x, rfl⟩
        have L1 := hf x
        generalize f x = W0 at *
        clear k0 k1 hf hex hp3 hp4
        go_wp2_with fail
        refine wp_region_class (fun u => ArgNet w u n A cap es) (by kernel_rfl) (by kernel_rfl) L1.drew ?_
        clear L1
        intro X2 hX2 f hf hex
        have k0 : ∀ x, (f x).cell? ⟨w.heap.size, 0, none⟩ = some (.int .i64 n) := fun x => (hf x).c0
        have k1 : ∀ x, (f x).cell? ⟨w.heap.size, 1, none⟩ = some (.slice A es.length cap) := fun x => (hf x).c1
        repeat (go_big_quiet_step (first | (go_at_call 67; with_reducible exact class_same (HM.out _)) | (go_at_call 66; with_reducible exact class_of hex (HS.out _ (hf _)) (hf _).on)))
        refine wpQuiet_nil ?_
        rintro _ ⟨x, rfl⟩
        have L9 := hf x
        generalize f x = W9 at *
        clear k0 k1 hf hex
        go_wp2_with fail
        go_returns
        exact ⟨by first | rfl | simp, L9.below⟩
    | true =>
      have HLV : Hid (leastV n es (m : Nat) = true) := hlv.trans hv
      have HI : Hid (actIn n es (m : Nat) = (card (fun i => m.testBit i && firstV es m i) es.length : Nat)) := by
        unfold Hid actIn; rw [if_pos HLV.out, Int.toNat_natCast]; unfold actI inC firstV; rw [endsL_length]; unfold bits; rw [Int.toNat_natCast]
      have HO : Hid (actOut n es (m : Nat) = (card (fun i => !m.testBit i && firstV es m i) es.length : Nat)) := by
        unfold Hid actOut; rw [if_pos HLV.out, Int.toNat_natCast]; unfold actO outC firstV; rw [endsL_length]; unfold bits; rw [Int.toNat_natCast]
      have HF := Lib.hid (HF.out hv)
      have hcl : ∀ (p : Nat → Bool) k, card p k ≤ k := card_le
      rw [hv] at hlp
      have hlp2 := hlp.symm
      rw [Bool.and_eq_true, decide_eq_true_eq, decide_eq_true_eq] at hlp2
      obtain ⟨hyM, hzn⟩ := hlp2
      obtain rfl : y = M := Int.ofNat_inj.1 hyM
      have hne : (n - (y : Int) == (z : Int)) = true := beq_iff_eq.2 hzn
      have hnn : (n - (y : Int) != (z : Int)) = false := by unfold bne; rw [hne]; rfl
      rw [HI.out, HO.out, HLV.out]
      clear hlp hlv hv hyM hzn HI HO HLV
      go_enter Try.func26, Try.ntmps26
      go_wp2_with fail
      refine (HN.out _ L0).mono ?_
      rintro e1 w1 ⟨rfl, hb1⟩
      have L1 := L0.on _ hb1
      clear c0 c1 s0 L0 hb1
      go_wp2_with fail
      refine wp_region_class (fun u => ArgNet w u n A cap es) (by kernel_rfl) (by kernel_rfl) L1.drew ?_
      clear L1
      intro X hX f hf hex
      have k0 : ∀ x, (f x).cell? ⟨w.heap.size, 0, none⟩ = some (.int .i64 n) := fun x => (hf x).c0
      have k1 : ∀ x, (f x).cell? ⟨w.heap.size, 1, none⟩ = some (.slice A es.length cap) := fun x => (hf x).c1
      repeat (go_big_quiet_step (first | (go_at_call 66; with_reducible exact class_of hex (HA.out _ (hf _)) (hf _).on)))
      refine wpQuiet_nil ?_
      rintro _ ⟨x, rfl⟩
      have L1 := hf x
      generalize f x = W0 at *
      clear k0 k1 hf hex hp3 hp4
      go_wp2_with fail
      refine wp_region_class (fun u => ArgNet w u n A cap es) (by kernel_rfl) (by kernel_rfl) L1.drew ?_
      clear L1
      intro X2 hX2 f hf hex
      have k0 : ∀ x, (f x).cell? ⟨w.heap.size, 0, none⟩ = some (.int .i64 n) := fun x => (hf x).c0
      have k1 : ∀ x, (f x).cell? ⟨w.heap.size, 1, none⟩ = some (.slice A es.length cap) := fun x => (hf x).c1
      repeat (go_big_quiet_step (first | (go_at_call 67; with_reducible exact class_same (HM.out _)) | (go_at_call 66; with_reducible exact class_of hex (HS.out _ (hf _)) (hf _).on)))
      refine wpQuiet_nil ?_
      rintro _ ⟨x, rfl⟩
      have L9 := hf x
      generalize f x = W9 at *
      clear k0 k1 hf hex
      go_wp2_with fail
      go_loopw [8, 9, 10] (fun a b t wr => ∃ k : Nat, k ≤ es.length ∧ t = .int .i64 (k : Nat) ∧ a = .int .i64 (card (fun i => m.testBit i && firstV es m i) k : Nat) ∧ b = .int .i64 (card (fun i => !m.testBit i && firstV es m i) k : Nat) ∧ ArgNet w wr n A cap es) (fun _ _ t _ => es.length - (intOf t).toNat)
      case atStart => exact ⟨0, by omega, rfl, rfl, rfl, L9⟩
      case round =>
        clear L9 HN HS HA HM
        obtain ⟨k, hk, rfl, rfl, rfl, L⟩ := hrel
        obtain ⟨_, _, c0, c1, s0⟩ := id L
        have h1 := hcl (fun i => m.testBit i && firstV es m i) k
        have h2 := hcl (fun i => !m.testBit i && firstV es m i) k
        by_cases hlt : k < es.length
        · have HC := Lib.hid (HF.out k hlt)
          have hbit := bit_tmod m k
          have k8 : k ≤ 8 := by omega
          cases hf : firstV es m k with
          | false =>
            have e1 : Hid (card (fun i => m.testBit i && firstV es m i) (k + 1) = card (fun i => m.testBit i && firstV es m i) k) := card_miss (by simp [hf])
            have e2 : Hid (card (fun i => !m.testBit i && firstV es m i) (k + 1) = card (fun i => !m.testBit i && firstV es m i) k) := card_miss (by simp [hf])
            rw [hf] at HC
            clear hf hbit hcl
            generalize card (fun i => m.testBit i && firstV es m i) k = a at *
            generalize card (fun i => !m.testBit i && firstV es m i) k = b at *
            go_wp2_with fail
            refine (HC.out _ L).mono ?_
            rintro e5 w5 ⟨rfl, hb5⟩
            have L5 := L.on _ hb5
            go_wp2_with fail
            go_roundw
            case rel => exact ⟨k + 1, by omega, by go_num, by rw [e1.out], by rw [e2.out], L5⟩
            case measure => simp [intOf]; omega
          | true =>
            cases hb : m.testBit k with
            | false =>
              have e1 : Hid (card (fun i => m.testBit i && firstV es m i) (k + 1) = card (fun i => m.testBit i && firstV es m i) k) := card_miss (by simp [hb])
              have e2 : Hid (card (fun i => !m.testBit i && firstV es m i) (k + 1) = card (fun i => !m.testBit i && firstV es m i) k + 1) := card_hit (by simp [hf, hb])
              rw [hf] at HC
              rw [hb, if_neg (by simp)] at hbit
              clear hf hb hcl
              generalize card (fun i => m.testBit i && firstV es m i) k = a at *
              generalize card (fun i => !m.testBit i && firstV es m i) k = b at *
              go_wp2_with fail
              refine (HC.out _ L).mono ?_
              rintro e5 w5 ⟨rfl, hb5⟩
              have L5 := L.on _ hb5
              go_wp2_with fail
              go_roundw
              case rel => exact ⟨k + 1, by omega, by go_num, by rw [e1.out], by rw [e2.out]; go_num, L5⟩
              case measure => simp [intOf]; omega
            | true =>
              have e1 : Hid (card (fun i => m.testBit i && firstV es m i) (k + 1) = card (fun i => m.testBit i && firstV es m i) k + 1) := card_hit (by simp [hf, hb])
              have e2 : Hid (card (fun i => !m.testBit i && firstV es m i) (k + 1) = card (fun i => !m.testBit i && firstV es m i) k) := card_miss (by simp [hb])
              rw [hf] at HC
              rw [hb, if_pos rfl] at hbit
              clear hf hb hcl
              generalize card (fun i => m.testBit i && firstV es m i) k = a at *
              generalize card (fun i => !m.testBit i && firstV es m i) k = b at *
              go_wp2_with fail
              refine (HC.out _ L).mono ?_
              rintro e5 w5 ⟨rfl, hb5⟩
              have L5 := L.on _ hb5
              go_wp2_with fail
              go_roundw
              case rel => exact ⟨k + 1, by omega, by go_num, by rw [e1.out]; go_num, by rw [e2.out], L5⟩
              case measure => simp [intOf]; omega
        · obtain rfl : k = es.length := by omega
          go_wp2_with fail
          go_returns
          exact ⟨by first | rfl | simp, L.below⟩
end Go.Proofs.Ytdacfeebidhgnaa
