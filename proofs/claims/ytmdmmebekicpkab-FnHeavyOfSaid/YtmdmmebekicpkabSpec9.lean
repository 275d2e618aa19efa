/- Trees of the reference: TreeOk, RingWith, CutWith. -/
import Derived.Test.YtmdmmebekicpkabTreeP
import Derived.Test.YtmdmmebekicpkabEdgesAt
import Derived.Test.YtmdmmebekicpkabClass
import Derived.Test.YtmdmmebekicpkabImpl9
namespace Go.Proofs.Ytmdmmebekicpkab
open Go.RowKit
set_option maxRecDepth 100000

set_option maxHeartbeats 4000000 in
theorem specTreeOk_any (n s : Int) (A : Option Addr) (cap : Nat) (es : List (Int × Int)) (w : World) (hes : EdgesIn w w.heap.size A es) (hl : es.length ≤ 1048576) :
    Calls Try.prog 24 #[.agg #[.int .i64 n, .slice A es.length cap], .int .i64 s] w fun e w' => e = .returned (.bool (treeB n es s)) ∧ Below w.heap.size w w' := by
  have L0 := ArgNet.start (cap := cap) (n := n) 25 hes
  cases hS : stateOkB n es s with
  | false =>
    have HH : Hid (∀ u, ArgNet w u n A cap es → Calls Try.prog 29 #[.agg #[.int .i64 n, .slice A es.length cap], .int .i64 s] u fun e w' => e = .returned (.bool false) ∧ Below u.heap.size u w') := fun u h => specStateOk_is n s A cap es u h.edges hl _ hS
    have HV : Hid (treeB n es s = false) := by unfold Hid treeB; rw [hS]; rfl
    rw [HV.out]
    clear hS hes
    go_enter Try.func24, Try.ntmps24
    go_wp2_with fail
    refine wp_region_class (fun u => ArgNet w u n A cap es) (by kernel_rfl) (by kernel_rfl) L0.drew ?_
    clear L0
    intro X hX f hf hex
    have c0 : ∀ x, (f x).cell? ⟨w.heap.size, 0, none⟩ = some (.int .i64 n) := fun x => (hf x).c0
    have c1 : ∀ x, (f x).cell? ⟨w.heap.size, 1, none⟩ = some (.slice A es.length cap) := fun x => (hf x).c1
    repeat (go_big_quiet_step (first | (go_at_call 29; with_reducible exact class_of hex (HH.out _ (hf _)) (hf _).on)))
    refine wpQuiet_nil ?_
    rintro _ ⟨x, rfl⟩
    have F := hf x
    go_wp2_with fail
    go_returns
    exact ⟨by first | rfl | simp, F.below⟩
  | true =>
    obtain ⟨m, rfl, hm, hm5⟩ := state_nat hS
    have hn := (netOkB_iff.1 (stateOkB_net hS)).1
    have HH : Hid (∀ u, ArgNet w u n A cap es → Calls Try.prog 29 #[.agg #[.int .i64 n, .slice A es.length cap], .int .i64 (m : Nat)] u fun e w' => e = .returned (.bool true) ∧ Below u.heap.size u w') := fun u h => specStateOk_is n m A cap es u h.edges hl _ hS
    have ht : thereI n es m = pop m := by unfold thereI; rw [hS, if_pos rfl]; rfl
    have htl := there_lt hS
    rw [ht] at htl
    have HM : Hid (∀ u, Calls Try.prog 66 #[.int .i64 (m : Nat)] u fun e w' => e = .returned (.int .i64 (pop m)) ∧ u = w') := fun u => l1Many_any m u (by omega)
    have wn : IntKind.i64.wrap (n - 1) = n - 1 := IntWalk.i64_in _ (by omega)
    cases hT : decide ((pop m : Int) = n - 1) with
    | false =>
      have HV : Hid (treeB n es m = false) := by unfold Hid treeB; rw [hS, ht, hT]; rfl
      have hne := of_decide_eq_false hT
      rw [HV.out]
      generalize pop m = z at *
      have hbe : ((z : Int) == n - 1) = false := beq_eq_false_iff_ne.2 hne
      clear hS hes ht hT
      go_enter Try.func24, Try.ntmps24
      go_wp2_with fail
      refine wp_region_class (fun u => ArgNet w u n A cap es) (by kernel_rfl) (by kernel_rfl) L0.drew ?_
      clear L0
      intro X hX f hf hex
      have c0 : ∀ x, (f x).cell? ⟨w.heap.size, 0, none⟩ = some (.int .i64 n) := fun x => (hf x).c0
      have c1 : ∀ x, (f x).cell? ⟨w.heap.size, 1, none⟩ = some (.slice A es.length cap) := fun x => (hf x).c1
      repeat (go_big_quiet_step (first | (go_at_call 29; with_reducible exact class_of hex (HH.out _ (hf _)) (hf _).on) | (go_at_call 66; with_reducible exact class_same (HM.out _))))
      refine wpQuiet_nil ?_
      rintro _ ⟨x, rfl⟩
      have F := hf x
      go_wp2_with fail
      go_returns
      exact ⟨by first | rfl | simp, F.below⟩
    | true =>
      have he := of_decide_eq_true hT
      have HV : Hid (treeB n es m = decide (((piecesB n es m : Nat) : Int) = 1)) := by unfold Hid treeB; rw [hS, ht, hT, (piecesI_lt hS).1]; rfl
      have HP : Hid (∀ u, ArgNet w u n A cap es → Calls Try.prog 67 #[.agg #[.int .i64 n, .slice A es.length cap], .int .i64 (m : Nat)] u fun e w' => e = .returned (.int .i64 (piecesB n es m : Nat)) ∧ Below u.heap.size u w') := fun u h => l2Pieces_any n m A cap es u h.edges hS
      rw [HV.out]
      generalize pop m = z at *
      generalize piecesB n es m = y at *
      clear hS hes ht hT
      go_enter Try.func24, Try.ntmps24
      go_wp2_with fail
      refine wp_region_class (fun u => ArgNet w u n A cap es) (by kernel_rfl) (by kernel_rfl) L0.drew ?_
      clear L0
      intro X hX f hf hex
      have c0 : ∀ x, (f x).cell? ⟨w.heap.size, 0, none⟩ = some (.int .i64 n) := fun x => (hf x).c0
      have c1 : ∀ x, (f x).cell? ⟨w.heap.size, 1, none⟩ = some (.slice A es.length cap) := fun x => (hf x).c1
      repeat (go_big_quiet_step (first | (go_at_call 29; with_reducible exact class_of hex (HH.out _ (hf _)) (hf _).on) | (go_at_call 66; with_reducible exact class_same (HM.out _)) | (go_at_call 67; with_reducible exact class_of hex (HP.out _ (hf _)) (hf _).on)))
      refine wpQuiet_nil ?_
      rintro _ ⟨x, rfl⟩
      have F := hf x
      go_wp2_with fail
      go_returns
      exact ⟨by first | rfl | simp, F.below⟩

theorem ring_out {E : Nat → Nat × Nat} {m n : Nat} {T : Nat → Bool} (h : TreeP E m n T) {a : Nat} (ha : a < m) (hT : T a = false) : 2 ^ a ||| setOf (fun o => T o && decide (pcs E (lessT (moreT T a) o) m n = 1)) m = setOf (ringB E m T a) m := by
  apply Nat.eq_of_testBit_eq
  intro i
  rw [Nat.testBit_or, Nat.testBit_two_pow, setOf_bit, setOf_bit]
  by_cases hi : i < m
  · by_cases e : a = i
    · subst e; simp [hi, h.ring_at ha hT]
    · cases hTi : T i with
      | true => rw [h.ring_pcs a hi hTi]; simp [e, hi]
      | false =>
        have : ringB E m T a i = false := by simp [ringB, moreT, hTi, Ne.symm e]
        simp [this, e]
  · have e : a ≠ i := by omega
    simp [hi, e]
theorem add_or {s k : Nat} (hs : s < 512) (hk : k < 9) (hb : s.testBit k = false) : s + 2 ^ k = s ||| 2 ^ k := by
  have h1 : 2 ^ k < 2 ^ 9 := Nat.pow_lt_pow_right (by omega) (by omega)
  have h2 : s ||| 2 ^ k < 512 := Nat.or_lt_two_pow (n := 9) (by omega) h1
  have h3 : (s ||| 2 ^ k).testBit k = true := by rw [Nat.testBit_or, Nat.testBit_two_pow]; simp
  have h4 : (s ||| 2 ^ k) - 2 ^ k = s := by
    apply Nat.eq_of_testBit_eq
    intro i
    rw [less_testBit h2 hk h3, Nat.testBit_or, Nat.testBit_two_pow]
    by_cases e : k = i
    · subst e; simp [hb]
    · simp [e, Ne.symm e]
  have h5 : 2 ^ k ≤ s ||| 2 ^ k := Nat.le_of_not_lt fun h => by rw [Nat.testBit_lt_two_pow h] at h3; cases h3
  omega
theorem wrap_plus {m P r : Nat} (h : m + P = r) (hr : r < 512) : IntKind.i64.wrap ((m : Int) + (P : Int)) = (r : Int) := by rw [IntWalk.i64_in _ (by omega)]; omega
theorem wrap_minus {r Q : Nat} (h : Q ≤ r) (hr : r < 512) : IntKind.i64.wrap ((r : Int) - (Q : Int)) = ((r - Q : Nat) : Int) := by rw [IntWalk.i64_in _ (by omega)]; omega
theorem bits_more (s k : Nat) : bits ((s ||| 2 ^ k : Nat) : Int) = moreT (bits (s : Nat)) k := by
  funext i
  unfold bits moreT
  rw [Int.toNat_natCast, Int.toNat_natCast, Nat.testBit_or, Nat.testBit_two_pow]
  congr 1
  rw [decide_eq_decide]; omega
theorem bits_less {s k : Nat} (hs : s < 512) (hk : k < 9) (hb : s.testBit k = true) : bits ((s - 2 ^ k : Nat) : Int) = lessT (bits (s : Nat)) k := by
  funext i
  unfold bits lessT
  rw [Int.toNat_natCast, Int.toNat_natCast, less_testBit hs hk hb]

set_option maxHeartbeats 4000000 in
theorem specRingWith_any (n s a : Int) (A : Option Addr) (cap : Nat) (es : List (Int × Int)) (w : World) (hes : EdgesIn w w.heap.size A es) (hl : es.length ≤ 1048576) :
    Calls Try.prog 41 #[.agg #[.int .i64 n, .slice A es.length cap], .int .i64 s, .int .i64 a] w fun e w' => e = .returned (.tuple #[.int .i64 (ringI n es s a), .bool (ringOk n es s a)]) ∧ Below w.heap.size w w' := by
  have L0 := ArgNet.start (cap := cap) (n := n) 25 hes
  have HT : Hid (∀ u, ArgNet w u n A cap es → Calls Try.prog 24 #[.agg #[.int .i64 n, .slice A es.length cap], .int .i64 s] u fun e w' => e = .returned (.bool (treeB n es s)) ∧ Below u.heap.size u w') := fun u h => specTreeOk_any n s A cap es u h.edges hl
  obtain ⟨_, _, c0, c1, s0⟩ := id L0
  have hwrong : ringOk n es s a = false → ringI n es s a = -1 := fun h => by unfold ringI; rw [h]; rfl
  cases ht : treeB n es s with
  | false =>
    have hO : ringOk n es s a = false := by simp [ringOk, ht]
    rw [hwrong hO, hO]
    rw [ht] at HT
    clear hO hwrong hes ht
    go_enter Try.func41, Try.ntmps41
    go_wp2_with fail
    refine (HT.out _ L0).mono ?_
    rintro e1 w1 ⟨rfl, hb1⟩
    have L1 := L0.on _ hb1
    go_wp2_with fail
    go_returns
    exact ⟨by first | rfl | simp, L1.below⟩
  | true =>
    rw [ht] at HT
    obtain ⟨m, rfl, hm, hm5⟩ := state_nat (treeB_ok ht)
    have hnet := stateOkB_net (treeB_ok ht)
    have h9 := (netOkB_iff.1 hnet).2.1
    have TP := (treeB_iff.1 ht).2
    have wl : IntKind.i64.wrap ((es.length : Int) - 1) = (es.length : Int) - 1 := IntWalk.i64_in _ (by omega)
    have HJ : Hid (∀ u, Calls Try.prog 59 #[.int .i64 a, .int .i64 0, .int .i64 ((es.length : Int) - 1)] u fun e w' => e = .returned (.bool (decide (0 ≤ a) && decide (a ≤ (es.length : Int) - 1))) ∧ u = w') := fun u => l1In_any a 0 ((es.length : Int) - 1) u
    cases hin : (decide (0 ≤ a) && decide (a ≤ (es.length : Int) - 1)) with
    | false =>
      have hO : ringOk n es m a = false := by
        rw [Bool.and_eq_false_iff, decide_eq_false_iff_not, decide_eq_false_iff_not] at hin
        unfold ringOk
        rw [Bool.and_eq_false_iff, Bool.and_eq_false_iff, Bool.and_eq_false_iff, decide_eq_false_iff_not, decide_eq_false_iff_not]
        right; left
        rcases hin with h | h
        · exact .inl h
        · exact .inr (by omega)
      rw [hwrong hO, hO]
      rw [hin] at HJ
      clear hO hwrong hes ht hin TP hnet
      go_enter Try.func41, Try.ntmps41
      go_wp2_with fail
      refine (HT.out _ L0).mono ?_
      rintro e1 w1 ⟨rfl, hb1⟩
      have L1 := L0.on _ hb1
      clear c0 c1 s0
      obtain ⟨_, _, c0, c1, s0⟩ := id L1
      go_wp2_with fail
      refine (HJ.out _).mono ?_
      rintro e2 w2 ⟨rfl, rfl⟩
      go_wp2_with fail
      go_returns
      exact ⟨by first | rfl | simp, L1.below⟩
    | true =>
      rw [hin] at HJ
      rw [Bool.and_eq_true, decide_eq_true_eq, decide_eq_true_eq] at hin
      obtain ⟨k, rfl⟩ : ∃ k : Nat, a = k := ⟨a.toNat, by omega⟩
      have hk : k < es.length := by omega
      have hbit := bit_tmod m k
      cases hb : m.testBit k with
      | true =>
        have hO : ringOk n es m k = false := by simp [ringOk, bits, hb]
        rw [hwrong hO, hO]
        rw [hb, if_pos rfl] at hbit
        clear hO hwrong hes ht hin TP hnet hb
        go_enter Try.func41, Try.ntmps41
        go_wp2_with fail
        refine (HT.out _ L0).mono ?_
        rintro e1 w1 ⟨rfl, hb1⟩
        have L1 := L0.on _ hb1
        clear c0 c1 s0
        obtain ⟨_, _, c0, c1, s0⟩ := id L1
        go_wp2_with fail
        refine (HJ.out _).mono ?_
        rintro e2 w2 ⟨rfl, rfl⟩
        go_wp2_with fail
        go_returns
        exact ⟨by first | rfl | simp, L1.below⟩
      | false =>
        rw [hb, if_neg (by simp)] at hbit
        have hO : ringOk n es m k = true := by
          unfold ringOk
          rw [ht, decide_eq_true (show (0 : Int) ≤ (k : Nat) by omega), decide_eq_true (show ((k : Nat) : Int) < es.length by omega)]
          unfold bits
          rw [Int.toNat_natCast, Int.toNat_natCast, hb]; rfl
        have hTk : bits (m : Nat) k = false := by unfold bits; rw [Int.toNat_natCast, hb]
        obtain ⟨p, hp⟩ : ∃ p : Nat → Bool, p = fun o => bits (m : Nat) o && decide (pcs (endsOf es) (lessT (moreT (bits (m : Nat)) k) o) es.length n.toNat = 1) := ⟨_, rfl⟩
        have HZ : Hid (((2 ^ k ||| setOf p es.length : Nat) : Int) = ringI n es m k) := by
          unfold Hid ringI
          rw [hO, if_pos rfl, hp, ring_out TP hk hTk]; rfl
        have hM : m ||| 2 ^ k < 512 := by
          have h1 : 2 ^ k < 2 ^ 9 := Nat.pow_lt_pow_right (by omega) (by omega)
          exact Nat.or_lt_two_pow (n := 9) (by omega) h1
        have hM2 : m ||| 2 ^ k < 2 ^ es.length := more_lt hm hk
        have hadd := add_or hm5 (show k < 9 by omega) hb
        have HP : Hid (∀ o, o < es.length → m.testBit o = true → 2 ^ o ≤ m ||| 2 ^ k ∧ ∃ y : Nat, y ≤ 6 ∧ p o = decide (y = 1) ∧ ∀ u, ArgNet w u n A cap es → Calls Try.prog 67 #[.agg #[.int .i64 n, .slice A es.length cap], .int .i64 (((m ||| 2 ^ k) - 2 ^ o : Nat) : Nat)] u fun e w' => e = .returned (.int .i64 (y : Nat)) ∧ Below u.heap.size u w') := fun o ho hbo => by
          have hbo2 : (m ||| 2 ^ k).testBit o = true := by rw [Nat.testBit_or, hbo]; rfl
          have hle : 2 ^ o ≤ m ||| 2 ^ k := Nat.le_of_not_lt fun h => by rw [Nat.testBit_lt_two_pow h] at hbo2; cases hbo2
          have hst : stateOkB n es (((m ||| 2 ^ k) - 2 ^ o : Nat) : Int) = true := state_of hnet (Nat.lt_of_le_of_lt (Nat.sub_le _ _) hM2)
          have e1 := bits_less hM (show o < 9 by omega) hbo2
          rw [bits_more] at e1
          have hn6 := (netOkB_iff.1 hnet).1
          refine ⟨hle, piecesB n es (((m ||| 2 ^ k) - 2 ^ o : Nat) : Int), Nat.le_trans (pcs_le _ _ _ _) (by omega), ?_, fun u h => l2Pieces_any n _ A cap es u h.edges hst⟩
          rw [hp]
          unfold piecesB
          rw [e1]
          show (bits (m : Nat) o && _) = _
          unfold bits
          rw [Int.toNat_natCast, hbo]; rfl
        have HN : Hid (∀ o, m.testBit o = false → p o = false) := fun o hbo => by
          rw [hp]
          show (bits (m : Nat) o && _) = _
          unfold bits
          rw [Int.toNat_natCast, hbo]; rfl
        have hkmin : min k 64 = k := by omega
        obtain ⟨P, hP, p1, p2, hp3, hp4⟩ := pow_named12 (show k ≤ 13 by omega)
        have hP9 : P < 512 := by rw [← hP]; exact Nat.lt_of_lt_of_le (Nat.pow_lt_pow_right (by omega) (show k < 9 by omega)) (by omega)
        rw [hP] at hadd HZ HP hM
        rw [hO, ← HZ.out]
        have HP2 := Lib.hid hP
        generalize m ||| P = r at *
        clear hO hwrong hes ht hin TP hnet hb hp HZ hM2 hTk hP hm
        have wr1 : IntKind.i64.wrap ((m : Int) + (P : Int)) = (r : Int) := wrap_plus hadd hM
        go_enter Try.func41, Try.ntmps41
        go_wp2_with fail
        refine (HT.out _ L0).mono ?_
        rintro e1 w1 ⟨rfl, hb1⟩
        have L1 := L0.on _ hb1
        clear c0 c1 s0
        obtain ⟨_, _, c0, c1, s0⟩ := id L1
        go_wp2_with fail
        refine (HJ.out _).mono ?_
        rintro e2 w2 ⟨rfl, rfl⟩
        go_wp2_with fail
        clear c0 c1 s0 hbit
        go_loopw [8, 9] (fun v t wr => ∃ o : Nat, o ≤ es.length ∧ t = .int .i64 (o : Nat) ∧ v = .int .i64 (P ||| setOf p o : Nat) ∧ ArgNet w wr n A cap es) (fun _ t _ => es.length - (intOf t).toNat)
        case atStart => exact ⟨0, by omega, rfl, by simp [setOf], L1⟩
        case round =>
          clear L1
          obtain ⟨o, ho, rfl, rfl, L⟩ := hrel
          have c0 := L.c0
          have c1 := L.c1
          by_cases hlt : o < es.length
          · have z1 := setOf_le p (show o ≤ 9 by omega)
            have z2 : P ||| setOf p o < 512 := Nat.or_lt_two_pow (n := 9) hP9 z1
            have HS : Hid (setOf p (o + 1) = if p o = true then setOf p o ||| 2 ^ o else setOf p o) := rfl
            have hbit := bit_tmod m o
            cases hbo : m.testBit o with
            | false =>
              rw [hbo, if_neg (by simp)] at hbit
              have HS2 : Hid (P ||| setOf p o = P ||| setOf p (o + 1)) := by unfold Hid; rw [HS.out, HN.out o hbo]; rfl
              clear HS hbo
              go_wp2_with fail
              refine wp_region_class (fun u => ArgNet w u n A cap es) (by kernel_rfl) (by kernel_rfl) L.drew ?_
              clear L c0 c1
              intro X hX f hf hex
              have c0 : ∀ x, (f x).cell? ⟨w.heap.size, 0, none⟩ = some (.int .i64 n) := fun x => (hf x).c0
              have c1 : ∀ x, (f x).cell? ⟨w.heap.size, 1, none⟩ = some (.slice A es.length cap) := fun x => (hf x).c1
              repeat (go_big_quiet_step (fail))
              refine wpQuiet_nil ?_
              rintro _ ⟨x, rfl⟩
              have F := hf x
              clear c0 c1
              go_wp2_with fail
              go_roundw
              case rel => exact ⟨o + 1, by omega, by go_num, by rw [HS2.out], F⟩
              case measure => simp [intOf]; omega
            | true =>
              rw [hbo, if_pos rfl] at hbit
              obtain ⟨hle, y, hy6, hpy, hcall⟩ := HP.out o hlt hbo
              have HC := Lib.hid hcall
              have homin : min o 64 = o := by omega
              obtain ⟨Q, hQ, q1, q2, hq3, hq4⟩ := pow_named12 (show o ≤ 13 by omega)
              rw [hQ] at hle HC HS
              have wr2 : IntKind.i64.wrap ((r : Int) - (Q : Int)) = ((r - Q : Nat) : Int) := wrap_minus hle hM
              have hor := or_small (x := P ||| setOf p o) (y := Q) (by omega) (by omega)
              clear hcall hbo hQ
              by_cases hy : y = 1
              · subst hy
                have HS2 : Hid ((P ||| setOf p o) ||| Q = P ||| setOf p (o + 1)) := by unfold Hid; rw [HS.out, hpy]; exact Nat.or_assoc _ _ _
                clear HS hpy
                generalize P ||| setOf p o = z at *
                generalize r - Q = rq at *
                go_wp2_with fail
                refine wp_region_class (fun u => ArgNet w u n A cap es) (by kernel_rfl) (by kernel_rfl) L.drew ?_
                clear L c0 c1
                intro X hX f hf hex
                have c0 : ∀ x, (f x).cell? ⟨w.heap.size, 0, none⟩ = some (.int .i64 n) := fun x => (hf x).c0
                have c1 : ∀ x, (f x).cell? ⟨w.heap.size, 1, none⟩ = some (.slice A es.length cap) := fun x => (hf x).c1
                repeat (go_big_quiet_step (first | (go_at_call 67; with_reducible exact class_of hex (HC.out _ (hf _)) (hf _).on)))
                refine wpQuiet_nil ?_
                rintro _ ⟨x, rfl⟩
                have F := hf x
                clear c0 c1
                go_wp2_with fail
                go_roundw
                case rel => exact ⟨o + 1, by omega, by go_num, by rw [← HS2.out], F⟩
                case measure => simp [intOf]; omega
              · have hne : ((y : Int) == 1) = false := beq_eq_false_iff_ne.2 (by omega)
                have HS2 : Hid (P ||| setOf p o = P ||| setOf p (o + 1)) := by unfold Hid; rw [HS.out, hpy, decide_eq_false hy]; rfl
                clear HS hpy hor
                generalize r - Q = rq at *
                go_wp2_with fail
                refine wp_region_class (fun u => ArgNet w u n A cap es) (by kernel_rfl) (by kernel_rfl) L.drew ?_
                clear L c0 c1
                intro X hX f hf hex
                have c0 : ∀ x, (f x).cell? ⟨w.heap.size, 0, none⟩ = some (.int .i64 n) := fun x => (hf x).c0
                have c1 : ∀ x, (f x).cell? ⟨w.heap.size, 1, none⟩ = some (.slice A es.length cap) := fun x => (hf x).c1
                repeat (go_big_quiet_step (first | (go_at_call 67; with_reducible exact class_of hex (HC.out _ (hf _)) (hf _).on)))
                refine wpQuiet_nil ?_
                rintro _ ⟨x, rfl⟩
                have F := hf x
                clear c0 c1
                go_wp2_with fail
                go_roundw
                case rel => exact ⟨o + 1, by omega, by go_num, by rw [HS2.out], F⟩
                case measure => simp [intOf]; omega
          · obtain rfl : o = es.length := by omega
            go_wp2_with fail
            go_returns
            exact ⟨by first | rfl | simp, L.below⟩

set_option maxHeartbeats 4000000 in
theorem specCutWith_any (n s a : Int) (A : Option Addr) (cap : Nat) (es : List (Int × Int)) (w : World) (hes : EdgesIn w w.heap.size A es) (hl : es.length ≤ 1048576) :
    Calls Try.prog 43 #[.agg #[.int .i64 n, .slice A es.length cap], .int .i64 s, .int .i64 a] w fun e w' => e = .returned (.tuple #[.int .i64 (cutI n es s a), .bool (cutOk n es s a)]) ∧ Below w.heap.size w w' := by
  have L0 := ArgNet.start (cap := cap) (n := n) 25 hes
  have HT : Hid (∀ u, ArgNet w u n A cap es → Calls Try.prog 24 #[.agg #[.int .i64 n, .slice A es.length cap], .int .i64 s] u fun e w' => e = .returned (.bool (treeB n es s)) ∧ Below u.heap.size u w') := fun u h => specTreeOk_any n s A cap es u h.edges hl
  obtain ⟨_, _, c0, c1, s0⟩ := id L0
  have hwrong : cutOk n es s a = false → cutI n es s a = -1 := fun h => by unfold cutI; rw [h]; rfl
  cases ht : treeB n es s with
  | false =>
    have hO : cutOk n es s a = false := by simp [cutOk, ht]
    rw [hwrong hO, hO]
    rw [ht] at HT
    clear hO hwrong hes ht
    go_enter Try.func43, Try.ntmps43
    go_wp2_with fail
    refine (HT.out _ L0).mono ?_
    rintro e1 w1 ⟨rfl, hb1⟩
    have L1 := L0.on _ hb1
    go_wp2_with fail
    go_returns
    exact ⟨by first | rfl | simp, L1.below⟩
  | true =>
    rw [ht] at HT
    obtain ⟨m, rfl, hm, hm5⟩ := state_nat (treeB_ok ht)
    have hnet := stateOkB_net (treeB_ok ht)
    have h9 := (netOkB_iff.1 hnet).2.1
    have TP := (treeB_iff.1 ht).2
    have wl : IntKind.i64.wrap ((es.length : Int) - 1) = (es.length : Int) - 1 := IntWalk.i64_in _ (by omega)
    have HJ : Hid (∀ u, Calls Try.prog 59 #[.int .i64 a, .int .i64 0, .int .i64 ((es.length : Int) - 1)] u fun e w' => e = .returned (.bool (decide (0 ≤ a) && decide (a ≤ (es.length : Int) - 1))) ∧ u = w') := fun u => l1In_any a 0 ((es.length : Int) - 1) u
    cases hin : (decide (0 ≤ a) && decide (a ≤ (es.length : Int) - 1)) with
    | false =>
      have hO : cutOk n es m a = false := by
        rw [Bool.and_eq_false_iff, decide_eq_false_iff_not, decide_eq_false_iff_not] at hin
        unfold cutOk
        rw [Bool.and_eq_false_iff, Bool.and_eq_false_iff, Bool.and_eq_false_iff, decide_eq_false_iff_not, decide_eq_false_iff_not]
        right; left
        rcases hin with h | h
        · exact .inl h
        · exact .inr (by omega)
      rw [hwrong hO, hO]
      rw [hin] at HJ
      clear hO hwrong hes ht hin TP hnet
      go_enter Try.func43, Try.ntmps43
      go_wp2_with fail
      refine (HT.out _ L0).mono ?_
      rintro e1 w1 ⟨rfl, hb1⟩
      have L1 := L0.on _ hb1
      clear c0 c1 s0
      obtain ⟨_, _, c0, c1, s0⟩ := id L1
      go_wp2_with fail
      refine (HJ.out _).mono ?_
      rintro e2 w2 ⟨rfl, rfl⟩
      go_wp2_with fail
      go_returns
      exact ⟨by first | rfl | simp, L1.below⟩
    | true =>
      rw [hin] at HJ
      rw [Bool.and_eq_true, decide_eq_true_eq, decide_eq_true_eq] at hin
      obtain ⟨k, rfl⟩ : ∃ k : Nat, a = k := ⟨a.toNat, by omega⟩
      have hk : k < es.length := by omega
      have hbit := bit_tmod m k
      cases hb : m.testBit k with
      | false =>
        have hO : cutOk n es m k = false := by simp [cutOk, bits, hb]
        rw [hwrong hO, hO]
        rw [hb, if_neg (by simp)] at hbit
        clear hO hwrong hes ht hin TP hnet hb
        go_enter Try.func43, Try.ntmps43
        go_wp2_with fail
        refine (HT.out _ L0).mono ?_
        rintro e1 w1 ⟨rfl, hb1⟩
        have L1 := L0.on _ hb1
        clear c0 c1 s0
        obtain ⟨_, _, c0, c1, s0⟩ := id L1
        go_wp2_with fail
        refine (HJ.out _).mono ?_
        rintro e2 w2 ⟨rfl, rfl⟩
        go_wp2_with fail
        go_returns
        exact ⟨by first | rfl | simp, L1.below⟩
      | true =>
        rw [hb, if_pos rfl] at hbit
        have hO : cutOk n es m k = true := by
          unfold cutOk
          rw [ht, decide_eq_true (show (0 : Int) ≤ (k : Nat) by omega), decide_eq_true (show ((k : Nat) : Int) < es.length by omega)]
          unfold bits
          rw [Int.toNat_natCast, Int.toNat_natCast, hb]; rfl
        have hTk : bits (m : Nat) k = true := by unfold bits; rw [Int.toNat_natCast, hb]
        obtain ⟨p, hp⟩ : ∃ p : Nat → Bool, p = fun o => decide (pcs (endsOf es) (moreT (lessT (bits (m : Nat)) k) o) es.length n.toNat = 1) := ⟨_, rfl⟩
        have HZ : Hid (((setOf p es.length : Nat) : Int) = cutI n es m k) := by
          unfold Hid cutI
          rw [hO, if_pos rfl, hp, setOf_congr fun o ho => (TP.cut_pcs hk hTk ho).symm]; rfl
        have hle : 2 ^ k ≤ m := Nat.le_of_not_lt fun h => by rw [Nat.testBit_lt_two_pow h] at hb; cases hb
        have hM : m - 2 ^ k < 512 := Nat.lt_of_le_of_lt (Nat.sub_le _ _) hm5
        have hM2 : m - 2 ^ k < 2 ^ es.length := Nat.lt_of_le_of_lt (Nat.sub_le _ _) hm
        have hand := bit_less hm5 (show k < 9 by omega) hb
        have HP : Hid (∀ o, o < es.length → ∃ y : Nat, y ≤ 6 ∧ p o = decide (y = 1) ∧ ∀ u, ArgNet w u n A cap es → Calls Try.prog 67 #[.agg #[.int .i64 n, .slice A es.length cap], .int .i64 (((m - 2 ^ k) ||| 2 ^ o : Nat) : Nat)] u fun e w' => e = .returned (.int .i64 (y : Nat)) ∧ Below u.heap.size u w') := fun o ho => by
          have hst : stateOkB n es (((m - 2 ^ k) ||| 2 ^ o : Nat) : Int) = true := state_of hnet (more_lt hM2 ho)
          have e1 := bits_more (m - 2 ^ k) o
          rw [bits_less hm5 (show k < 9 by omega) hb] at e1
          have hn6 := (netOkB_iff.1 hnet).1
          refine ⟨piecesB n es (((m - 2 ^ k) ||| 2 ^ o : Nat) : Int), Nat.le_trans (pcs_le _ _ _ _) (by omega), ?_, fun u h => l2Pieces_any n _ A cap es u h.edges hst⟩
          rw [hp]
          unfold piecesB
          rw [e1]
        have hkmin : min k 64 = k := by omega
        obtain ⟨P, hP, p1, p2, hp3, hp4⟩ := pow_named12 (show k ≤ 13 by omega)
        rw [hP] at hand HP hM
        rw [hO, ← HZ.out]
        generalize m - P = r at *
        clear hO hwrong hes ht hin TP hnet hb hp HZ hM2 hTk hP hm hle
        go_enter Try.func43, Try.ntmps43
        go_wp2_with fail
        refine (HT.out _ L0).mono ?_
        rintro e1 w1 ⟨rfl, hb1⟩
        have L1 := L0.on _ hb1
        clear c0 c1 s0
        obtain ⟨_, _, c0, c1, s0⟩ := id L1
        go_wp2_with fail
        refine (HJ.out _).mono ?_
        rintro e2 w2 ⟨rfl, rfl⟩
        go_wp2_with fail
        clear c0 c1 s0 hbit
        go_loopw [8, 9] (fun v t wr => ∃ o : Nat, o ≤ es.length ∧ t = .int .i64 (o : Nat) ∧ v = .int .i64 (setOf p o : Nat) ∧ ArgNet w wr n A cap es) (fun _ t _ => es.length - (intOf t).toNat)
        case atStart => exact ⟨0, by omega, rfl, rfl, L1⟩
        case round =>
          clear L1
          obtain ⟨o, ho, rfl, rfl, L⟩ := hrel
          have c0 := L.c0
          have c1 := L.c1
          by_cases hlt : o < es.length
          · have z1 := setOf_le p (show o ≤ 9 by omega)
            have z2 : setOf p o < 512 := z1
            have HS : Hid (setOf p (o + 1) = if p o = true then setOf p o ||| 2 ^ o else setOf p o) := rfl
            obtain ⟨y, hy6, hpy, hcall⟩ := HP.out o hlt
            have HC := Lib.hid hcall
            have homin : min o 64 = o := by omega
            obtain ⟨Q, hQ, q1, q2, hq3, hq4⟩ := pow_named12 (show o ≤ 13 by omega)
            rw [hQ] at HC HS
            have hor := or_small (x := setOf p o) (y := Q) (by omega) (by omega)
            have hor2 := or_small (x := r) (y := Q) (by omega) (by omega)
            clear hcall hQ z1
            generalize r ||| Q = rq at *
            by_cases hy : y = 1
            · subst hy
              have HS2 : Hid (setOf p o ||| Q = setOf p (o + 1)) := by unfold Hid; rw [HS.out, hpy]; rfl
              clear HS hpy
              generalize setOf p o = z at *
              go_wp2_with fail
              refine wp_region_class (fun u => ArgNet w u n A cap es) (by kernel_rfl) (by kernel_rfl) L.drew ?_
              clear L c0 c1
              intro X hX f hf hex
              have c0 : ∀ x, (f x).cell? ⟨w.heap.size, 0, none⟩ = some (.int .i64 n) := fun x => (hf x).c0
              have c1 : ∀ x, (f x).cell? ⟨w.heap.size, 1, none⟩ = some (.slice A es.length cap) := fun x => (hf x).c1
              repeat (go_big_quiet_step (first | (go_at_call 67; with_reducible exact class_of hex (HC.out _ (hf _)) (hf _).on)))
              refine wpQuiet_nil ?_
              rintro _ ⟨x, rfl⟩
              have F := hf x
              clear c0 c1
              go_wp2_with fail
              go_roundw
              case rel => exact ⟨o + 1, by omega, by go_num, by rw [← HS2.out], F⟩
              case measure => simp [intOf]; omega
            · have hne : ((y : Int) == 1) = false := beq_eq_false_iff_ne.2 (by omega)
              have hne2 : ¬ ((y : Int) = 1) := by omega
              have HS2 : Hid (setOf p o = setOf p (o + 1)) := by unfold Hid; rw [HS.out, hpy, decide_eq_false hy]; rfl
              clear HS hpy hor
              go_wp2_with fail
              refine wp_region_class (fun u => ArgNet w u n A cap es) (by kernel_rfl) (by kernel_rfl) L.drew ?_
              clear L c0 c1
              intro X hX f hf hex
              have c0 : ∀ x, (f x).cell? ⟨w.heap.size, 0, none⟩ = some (.int .i64 n) := fun x => (hf x).c0
              have c1 : ∀ x, (f x).cell? ⟨w.heap.size, 1, none⟩ = some (.slice A es.length cap) := fun x => (hf x).c1
              repeat (go_big_quiet_step (first | (go_at_call 67; with_reducible exact class_of hex (HC.out _ (hf _)) (hf _).on)))
              refine wpQuiet_nil ?_
              rintro _ ⟨x, rfl⟩
              have F := hf x
              clear c0 c1
              go_wp2_with fail
              go_roundw
              case rel => exact ⟨o + 1, by omega, by go_num, by rw [HS2.out], F⟩
              case measure => simp [intOf]; omega
          · obtain rfl : o = es.length := by omega
            go_wp2_with fail
            go_returns
            exact ⟨by first | rfl | simp, L.below⟩
end Go.Proofs.Ytmdmmebekicpkab
