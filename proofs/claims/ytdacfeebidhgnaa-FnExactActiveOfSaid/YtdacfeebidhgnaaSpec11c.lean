/- Chapter 11 of the reference: ActiveOf. -/
import Derived.Test.YtdacfeebidhgnaaSpec11b
namespace Go.Proofs.Ytdacfeebidhgnaa
open Go.RowKit
set_option maxRecDepth 100000

theorem card_hit {p : Nat → Bool} {k : Nat} (h : p k = true) : card p (k + 1) = card p k + 1 := by rw [card, if_pos h]
theorem card_miss {p : Nat → Bool} {k : Nat} (h : p k = false) : card p (k + 1) = card p k := by rw [card, if_neg (by rw [h]; simp)]; rfl

set_option maxHeartbeats 8000000 in
theorem specActiveOf_any (n s : Int) (A : Option Addr) (cap : Nat) (es : List (Int × Int)) (w : World) (hes : EdgesIn w w.heap.size A es) (hl : es.length ≤ 1048576) :
    Calls Try.prog 26 #[.agg #[.int .i64 n, .slice A es.length cap], .int .i64 s] w fun e w' => e = .returned (.tuple #[.int .i64 (actIn n es s), .int .i64 (actOut n es s), .bool (leastV n es s)]) ∧ Below w.heap.size w w' := by
  have L0 := ArgNet.start (cap := cap) (n := n) 29 hes
  have HN : Hid (∀ u, ArgNet w u n A cap es → Calls Try.prog 73 #[.agg #[.int .i64 n, .slice A es.length cap], .int .i64 s] u fun e w' => e = .returned (.bool (stateOkB n es s)) ∧ Below u.heap.size u w') := fun u h => specStateOk_any n s A cap es u h.edges hl
  obtain ⟨_, _, c0, c1, s0⟩ := id L0
  cases hok : stateOkB n es s with
  | false =>
    have HL : Hid (leastV n es s = false) := by unfold Hid leastV; rw [hok]; rfl
    have HI : Hid (actIn n es s = -1) := if_neg (by rw [HL.out]; simp)
    have HO : Hid (actOut n es s = -1) := if_neg (by rw [HL.out]; simp)
    rw [HI.out, HO.out, HL.out]
    rw [hok] at HN
    clear hok hes
    go_enter Try.func26, Try.ntmps26
    go_wp2_with fail
    refine (HN.out _ L0).mono ?_
    rintro e1 w1 ⟨rfl, hb1⟩
    have L1 := L0.on _ hb1
    go_wp2_with fail
    go_returns
    exact ⟨by first | rfl | simp, L1.below⟩
  | true =>
    have hn := stateOkB_net hok
    have h9 := (netOkB_iff.1 hn).2.1
    have hn26 := (netOkB_iff.1 hn).1
    have hlv : leastV n es s = leastS es s := by unfold leastV; rw [hok, Bool.true_and]
    have hlp := leastS_pieces hok
    obtain ⟨m, rfl, hm, hm5⟩ := state_nat hok
    rw [Int.toNat_natCast] at hlp
    have HL : Hid (∀ t : Nat, t < 2 ^ es.length → ∀ u, ArgNet w u n A cap es → Calls Try.prog 66 #[.agg #[.int .i64 n, .slice A es.length cap], .int .i64 (t : Nat)] u fun e w' => e = .returned (.int .i64 (piecesB n es t : Nat)) ∧ Below u.heap.size u w') := fun t ht u h => l2Pieces_any n t A cap es u h.edges (state_of hn ht)
    have HM : Hid (∀ u, Calls Try.prog 67 #[.int .i64 (m : Nat)] u fun e w' => e = .returned (.int .i64 (pop m)) ∧ u = w') := fun u => l1Many_any m u (Nat.lt_trans hm5 (by decide))
    have HS := Lib.hid (HL.out m hm)
    have HA := HL.out (2 ^ es.length - 1) (vall_lt _)
    have hM6 : piecesB n es ((2 ^ es.length - 1 : Nat) : Int) ≤ n.toNat := pcs_le _ _ _ _
    have HF : Hid (leastS es (m : Nat) = true → ∀ k, k < es.length → ∀ u, ArgNet w u n A cap es → Calls Try.prog 74 #[.agg #[.int .i64 n, .slice A es.length cap], .int .i64 (m : Nat), .int .i64 (k : Nat)] u fun e w' => e = .returned (.bool (firstV es m k)) ∧ Below u.heap.size u w') := fun hb k hk u h => l11First_any n m k A cap es u h.edges hn hm hb hk
    have hlmin : min es.length 64 = es.length := Nat.min_eq_left (Nat.le_trans h9 (by decide))
    obtain ⟨P, hP, p1, p2, hp3, hp4⟩ := pow_named h9
    rw [hP] at HA hM6 hlp
    obtain ⟨Q, hQ⟩ : ∃ Q, P - 1 = Q := ⟨_, rfl⟩
    have wq := wrap_pred hQ p1 p2
    rw [hQ] at HA hM6 hlp
    obtain ⟨M, hM⟩ : ∃ M, piecesB n es ((Q : Nat) : Int) = M := ⟨_, rfl⟩
    rw [hM] at HA hM6 hlp
    have HA := Lib.hid HA
    have wn := wrap_left hn26 hM6
    obtain ⟨y, hy⟩ : ∃ y, piecesB n es ((m : Nat) : Int) = y := ⟨_, rfl⟩
    obtain ⟨z, hz⟩ : ∃ z, pop m = z := ⟨_, rfl⟩
    rw [hy] at HS hlp
    rw [hz] at HM hlp
    rw [hok] at HN
    clear hes hP hM hQ hy hz hok hm hn HL
    cases hv : leastS es ((m : Nat) : Int) with
    | false =>
      have HLV : Hid (leastV n es (m : Nat) = false) := hlv.trans hv
      have HI : Hid (actIn n es (m : Nat) = -1) := if_neg (by rw [HLV.out]; simp)
      have HO : Hid (actOut n es (m : Nat) = -1) := if_neg (by rw [HLV.out]; simp)
      rw [HI.out, HO.out, HLV.out]
      rw [hv] at hlp
      clear hlv hv HF
      by_cases hyM : y = M
      · have hzn : ¬ (n - (M : Int) = (z : Int)) := fun h => by rw [decide_eq_true h, decide_eq_true (congrArg (fun q : Nat => (q : Int)) hyM)] at hlp; cases hlp
        have hne : (n - (M : Int) == (z : Int)) = false := beq_eq_false_iff_ne.2 hzn
        have hnn : (n - (M : Int) != (z : Int)) = true := by unfold bne; rw [hne]; rfl
        subst hyM
        clear hlp
        go_enter Try.func26, Try.ntmps26
        go_wp2_with fail
        refine (HN.out _ L0).mono ?_
        rintro e1 w1 ⟨rfl, hb1⟩
        have L1 := L0.on _ hb1
        clear c0 c1 s0 L0 hb1
        go_wp2_with fail
        refine wp_region_class (fun u => ArgNet w u n A cap es) (by kernel_rfl) (by kernel_rfl) L1.drew ?_
        clear L1
        intro X hX f hf hex
        have k0 : ∀ x, (f x).cell? ⟨w.heap.size, 0, none⟩ = some (.int .i64 n) := fun x => (hf x).c0
        have k1 : ∀ x, (f x).cell? ⟨w.heap.size, 1, none⟩ = some (.slice A es.length cap) := fun x => (hf x).c1
        repeat (go_big_quiet_step (first | (go_at_call 66; with_reducible exact class_of hex (HA.out _ (hf _)) (hf _).on)))
        refine wpQuiet_nil ?_
        rintro _ ⟨x, rfl⟩
        have L1 := hf x
        generalize f x = W0 at *
        clear k0 k1 hf hex hp3 hp4
        go_wp2_with fail
        refine wp_region_class (fun u => ArgNet w u n A cap es) (by kernel_rfl) (by kernel_rfl) L1.drew ?_
        clear L1
        intro X2 hX2 f hf hex
        have k0 : ∀ x, (f x).cell? ⟨w.heap.size, 0, none⟩ = some (.int .i64 n) := fun x => (hf x).c0
        have k1 : ∀ x, (f x).cell? ⟨w.heap.size, 1, none⟩ = some (.slice A es.length cap) := fun x => (hf x).c1
        repeat (go_big_quiet_step (first | (go_at_call 67; with_reducible exact class_same (HM.out _)) | (go_at_call 66; with_reducible exact class_of hex (HS.out _ (hf _)) (hf _).on)))
        refine wpQuiet_nil ?_
        rintro _ ⟨x, rfl⟩
        have L9 := hf x
        generalize f x = W9 at *
        clear k0 k1 hf hex
        go_wp2_with fail
        go_returns
        exact ⟨by first | rfl | simp, L9.below⟩
      · have hne : ((y : Int) == (M : Int)) = false := eq_ff hyM
        have hnn : ((y : Int) != (M : Int)) = true := by unfold bne; rw [hne]; rfl
        clear hlp
        go_enter Try.func26, Try.ntmps26
        go_wp2_with fail
        refine (HN.out _ L0).mono ?_
        rintro e1 w1 ⟨rfl, hb1⟩
        have L1 := L0.on _ hb1
        clear c0 c1 s0 L0 hb1
        go_wp2_with fail
        refine wp_region_class (fun u => ArgNet w u n A cap es) (by kernel_rfl) (by kernel_rfl) L1.drew ?_
        clear L1
        intro X hX f hf hex
        have k0 : ∀ x, (f x).cell? ⟨w.heap.size, 0, none⟩ = some (.int .i64 n) := fun x => (hf x).c0
        have k1 : ∀ x, (f x).cell? ⟨w.heap.size, 1, none⟩ = some (.slice A es.length cap) := fun x => (hf x).c1
        repeat (go_big_quiet_step (first | (go_at_call 66; with_reducible exact class_of hex (HA.out _ (hf _)) (hf _).on)))
        refine wpQuiet_nil ?_
        rintro _ ⟨x, rfl⟩
        have L1 := hf x
        generalize f x = W0 at *
        clear k0 k1 hf hex hp3 hp4
        go_wp2_with fail
        refine wp_region_class (fun u => ArgNet w u n A cap es) (by kernel_rfl) (by kernel_rfl) L1.drew ?_
        clear L1
        intro X2 hX2 f hf hex
        have k0 : ∀ x, (f x).cell? ⟨w.heap.size, 0, none⟩ = some (.int .i64 n) := fun x => (hf x).c0
        have k1 : ∀ x, (f x).cell? ⟨w.heap.size, 1, none⟩ = some (.slice A es.length cap) := fun x => (hf x).c1
        repeat (go_big_quiet_step (first | (go_at_call 67; with_reducible exact class_same (HM.out _)) | (go_at_call 66; with_reducible exact class_of hex (HS.out _ (hf _)) (hf _).on)))
        refine wpQuiet_nil ?_
        rintro _ ⟨x, rfl⟩
        have L9 := hf x
        generalize f x = W9 at *
        clear k0 k1 hf hex
        go_wp2_with fail
        go_returns
        exact ⟨by first | rfl | simp, L9.below⟩
    | true =>
      have HLV : Hid (leastV n es (m : Nat) = true) := hlv.trans hv
      have HI : Hid (actIn n es (m : Nat) = (card (fun i => m.testBit i && firstV es m i) es.length : Nat)) := by
        unfold Hid actIn; rw [if_pos HLV.out, Int.toNat_natCast]; unfold actI inC firstV; rw [endsL_length]; unfold bits; rw [Int.toNat_natCast]
      have HO : Hid (actOut n es (m : Nat) = (card (fun i => !m.testBit i && firstV es m i) es.length : Nat)) := by
        unfold Hid actOut; rw [if_pos HLV.out, Int.toNat_natCast]; unfold actO outC firstV; rw [endsL_length]; unfold bits; rw [Int.toNat_natCast]
      have HF := Lib.hid (HF.out hv)
      have hcl : ∀ (p : Nat → Bool) k, card p k ≤ k := card_le
      rw [hv] at hlp
      have hlp2 := hlp.symm
      rw [Bool.and_eq_true, decide_eq_true_eq, decide_eq_true_eq] at hlp2
      obtain ⟨hyM, hzn⟩ := hlp2
      obtain rfl : y = M := Int.ofNat_inj.1 hyM
      have hne : (n - (y : Int) == (z : Int)) = true := beq_iff_eq.2 hzn
      have hnn : (n - (y : Int) != (z : Int)) = false := by unfold bne; rw [hne]; rfl
      rw [HI.out, HO.out, HLV.out]
      clear hlp hlv hv hyM hzn HI HO HLV
      go_enter Try.func26, Try.ntmps26
      go_wp2_with fail
      refine (HN.out _ L0).mono ?_
      rintro e1 w1 ⟨rfl, hb1⟩
      have L1 := L0.on _ hb1
      clear c0 c1 s0 L0 hb1
      go_wp2_with fail
      refine wp_region_class (fun u => ArgNet w u n A cap es) (by kernel_rfl) (by kernel_rfl) L1.drew ?_
      clear L1
      intro X hX f hf hex
      have k0 : ∀ x, (f x).cell? ⟨w.heap.size, 0, none⟩ = some (.int .i64 n) := fun x => (hf x).c0
      have k1 : ∀ x, (f x).cell? ⟨w.heap.size, 1, none⟩ = some (.slice A es.length cap) := fun x => (hf x).c1
      repeat (go_big_quiet_step (first | (go_at_call 66; with_reducible exact class_of hex (HA.out _ (hf _)) (hf _).on)))
      refine wpQuiet_nil ?_
      rintro _ ⟨x, rfl⟩
      have L1 := hf x
      generalize f x = W0 at *
      clear k0 k1 hf hex hp3 hp4
      go_wp2_with fail
      refine wp_region_class (fun u => ArgNet w u n A cap es) (by kernel_rfl) (by kernel_rfl) L1.drew ?_
      clear L1
      intro X2 hX2 f hf hex
      have k0 : ∀ x, (f x).cell? ⟨w.heap.size, 0, none⟩ = some (.int .i64 n) := fun x => (hf x).c0
      have k1 : ∀ x, (f x).cell? ⟨w.heap.size, 1, none⟩ = some (.slice A es.length cap) := fun x => (hf x).c1
      repeat (go_big_quiet_step (first | (go_at_call 67; with_reducible exact class_same (HM.out _)) | (go_at_call 66; with_reducible exact class_of hex (HS.out _ (hf _)) (hf _).on)))
      refine wpQuiet_nil ?_
      rintro _ ⟨x, rfl⟩
      have L9 := hf x
      generalize f x = W9 at *
      clear k0 k1 hf hex
      go_wp2_with fail
      go_loopw [8, 9, 10] (fun a b t wr => ∃ k : Nat, k ≤ es.length ∧ t = .int .i64 (k : Nat) ∧ a = .int .i64 (card (fun i => m.testBit i && firstV es m i) k : Nat) ∧ b = .int .i64 (card (fun i => !m.testBit i && firstV es m i) k : Nat) ∧ ArgNet w wr n A cap es) (fun _ _ t _ => es.length - (intOf t).toNat)
      case atStart => exact ⟨0, by omega, rfl, rfl, rfl, L9⟩
      case round =>
        clear L9 HN HS HA HM
        obtain ⟨k, hk, rfl, rfl, rfl, L⟩ := hrel
        obtain ⟨_, _, c0, c1, s0⟩ := id L
        have h1 := hcl (fun i => m.testBit i && firstV es m i) k
        have h2 := hcl (fun i => !m.testBit i && firstV es m i) k
        by_cases hlt : k < es.length
        · have HC := Lib.hid (HF.out k hlt)
          have hbit := bit_tmod m k
          have k8 : k ≤ 8 := by omega
          cases hf : firstV es m k with
          | false =>
            have e1 : Hid (card (fun i => m.testBit i && firstV es m i) (k + 1) = card (fun i => m.testBit i && firstV es m i) k) := card_miss (by simp [hf])
            have e2 : Hid (card (fun i => !m.testBit i && firstV es m i) (k + 1) = card (fun i => !m.testBit i && firstV es m i) k) := card_miss (by simp [hf])
            rw [hf] at HC
            clear hf hbit hcl
            generalize card (fun i => m.testBit i && firstV es m i) k = a at *
            generalize card (fun i => !m.testBit i && firstV es m i) k = b at *
            go_wp2_with fail
            refine (HC.out _ L).mono ?_
            rintro e5 w5 ⟨rfl, hb5⟩
            have L5 := L.on _ hb5
            go_wp2_with fail
            go_roundw
            case rel => exact ⟨k + 1, by omega, by go_num, by rw [e1.out], by rw [e2.out], L5⟩
            case measure => simp [intOf]; omega
          | true =>
            cases hb : m.testBit k with
            | false =>
              have e1 : Hid (card (fun i => m.testBit i && firstV es m i) (k + 1) = card (fun i => m.testBit i && firstV es m i) k) := card_miss (by simp [hb])
              have e2 : Hid (card (fun i => !m.testBit i && firstV es m i) (k + 1) = card (fun i => !m.testBit i && firstV es m i) k + 1) := card_hit (by simp [hf, hb])
              rw [hf] at HC
              rw [hb, if_neg (by simp)] at hbit
              clear hf hb hcl
              generalize card (fun i => m.testBit i && firstV es m i) k = a at *
              generalize card (fun i => !m.testBit i && firstV es m i) k = b at *
              go_wp2_with fail
              refine (HC.out _ L).mono ?_
              rintro e5 w5 ⟨rfl, hb5⟩
              have L5 := L.on _ hb5
              go_wp2_with fail
              go_roundw
              case rel => exact ⟨k + 1, by omega, by go_num, by rw [e1.out], by rw [e2.out]; go_num, L5⟩
              case measure => simp [intOf]; omega
            | true =>
              have e1 : Hid (card (fun i => m.testBit i && firstV es m i) (k + 1) = card (fun i => m.testBit i && firstV es m i) k + 1) := card_hit (by simp [hf, hb])
              have e2 : Hid (card (fun i => !m.testBit i && firstV es m i) (k + 1) = card (fun i => !m.testBit i && firstV es m i) k) := card_miss (by simp [hb])
              rw [hf] at HC
              rw [hb, if_pos rfl] at hbit
              clear hf hb hcl
              generalize card (fun i => m.testBit i && firstV es m i) k = a at *
              generalize card (fun i => !m.testBit i && firstV es m i) k = b at *
              go_wp2_with fail
              refine (HC.out _ L).mono ?_
              rintro e5 w5 ⟨rfl, hb5⟩
              have L5 := L.on _ hb5
              go_wp2_with fail
              go_roundw
              case rel => exact ⟨k + 1, by omega, by go_num, by rw [e1.out]; go_num, by rw [e2.out], L5⟩
              case measure => simp [intOf]; omega
        · obtain rfl : k = es.length := by omega
          go_wp2_with fail
          go_returns
          exact ⟨by first | rfl | simp, L.below⟩
end Go.Proofs.Ytdacfeebidhgnaa
