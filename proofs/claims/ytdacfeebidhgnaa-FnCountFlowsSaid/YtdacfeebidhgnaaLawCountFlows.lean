/- The law FnCountFlows holds of every code: the program answers as the reference does and the sum over the states; with an edge without which there are more pieces there is no flow; and with one value alone there is one exactly without edges. -/
import Derived.Test.YtdacfeebidhgnaaBytes
import Derived.Test.YtdacfeebidhgnaaVals
import Derived.Test.YtdacfeebidhgnaaBases
import Derived.Test.YtdacfeebidhgnaaDraw10
import Derived.Test.YtdacfeebidhgnaaImpl10g
import Derived.Test.YtdacfeebidhgnaaObj
namespace Go.Proofs.Ytdacfeebidhgnaa
open Go.RowKit
set_option maxRecDepth 100000

theorem selL_but : ∀ (l1 : List (Nat × Nat)) (e : Nat × Nat) (l2 : List (Nat × Nat)) (T : Nat → Bool), (∀ i, i < (l1 ++ e :: l2).length → T i = !decide (i = l1.length)) → selL (l1 ++ e :: l2) T = l1 ++ l2
  | [], e, l2, T, h => by
    have h0 : T 0 = false := by rw [h 0 (by simp)]; rfl
    show (if T 0 = true then e :: selL l2 (fun i => T (i + 1)) else selL l2 (fun i => T (i + 1))) = l2
    rw [h0, if_neg (by simp), selL_all l2 _ fun i hi => by rw [h (i + 1) (by simp; omega)]; simp]
  | a :: l1, e, l2, T, h => by
    have h0 : T 0 = true := by rw [h 0 (by simp)]; simp
    show (if T 0 = true then a :: selL (l1 ++ e :: l2) (fun i => T (i + 1)) else selL (l1 ++ e :: l2) (fun i => T (i + 1))) = a :: (l1 ++ l2)
    rw [h0, if_pos rfl, selL_but l1 e l2 _ fun i hi => by rw [h (i + 1) (by simp at hi ⊢; omega)]; simp]
theorem br_at {n : Int} {es : List (Int × Int)} (hn : netOkB n es = true) {l1 l2 : List (Nat × Nat)} {e : Nat × Nat} (he : endsL es = l1 ++ e :: l2) :
    piecesB n es ((2 ^ es.length - 1 : Nat) : Int) < piecesB n es ((2 ^ es.length - 1 - 2 ^ l1.length : Nat) : Int) ↔ allR (l1 ++ l2) (fun x => x) e.1 ≠ allR (l1 ++ l2) (fun x => x) e.2 := by
  have h9 := (netOkB_iff.1 hn).2.1
  have hlen : l1.length + l2.length + 1 = es.length := by have := congrArg List.length he; rw [endsL_length] at this; simp at this; omega
  have hk : l1.length < es.length := by omega
  have hp9 : 2 ^ es.length ≤ 2 ^ 9 := Nat.pow_le_pow_right (by omega) h9
  have hb : (2 ^ es.length - 1).testBit l1.length = true := by
    have := all_bits es.length l1.length hk
    simpa [bits] using this
  obtain ⟨hx, hxl⟩ := xor_sub (s := 2 ^ es.length - 1) (k := l1.length) (by have := Nat.one_le_two_pow (n := es.length); omega) (by omega) hb
  have r1 := rank_pieces (state_of hn (vall_lt es.length))
  have hlt : 2 ^ es.length - 1 - 2 ^ l1.length < 2 ^ es.length := Nat.lt_of_le_of_lt (Nat.sub_le _ _) (vall_lt _)
  have r2 := rank_pieces (state_of hn hlt)
  rw [rank_all] at r1
  have e1 : rkS es ((2 ^ es.length - 1 - 2 ^ l1.length : Nat) : Int) = rkA (l1 ++ l2) fun x => x := by
    unfold rkS
    rw [← hx, xor_bits, rankL_sel, he, selL_but]
    intro i hi
    have hi : i < es.length := by rw [← endsL_length es, he]; exact hi
    unfold flipT
    rw [all_bits es.length i hi]
    by_cases hik : i = l1.length
    · rw [if_pos hik, decide_eq_true hik]
    · rw [if_neg hik, decide_eq_false hik]; rfl
  have e2 : rkN es = rkA (l1 ++ l2) (fun x => x) + if allR (l1 ++ l2) (fun x => x) e.1 = allR (l1 ++ l2) (fun x => x) e.2 then 0 else 1 := by
    unfold rkN; rw [he, rkA_move, rkA_first]
  rw [e1] at r2
  rw [e2] at r1
  clear hx hxl hb hp9 hlt e1 e2
  generalize piecesB n es ((2 ^ es.length - 1 : Nat) : Int) = a at *
  generalize piecesB n es ((2 ^ es.length - 1 - 2 ^ l1.length : Nat) : Int) = b at *
  by_cases hj : allR (l1 ++ l2) (fun x => x) e.1 = allR (l1 ++ l2) (fun x => x) e.2
  · rw [if_pos hj] at r1
    exact ⟨fun h => by omega, fun h => absurd hj h⟩
  · rw [if_neg hj] at r1
    exact ⟨fun _ => hj, fun _ => by omega⟩
def brTo (D : Nat → Nat) (p : Nat) : Nat → Bool
  | 0 => false
  | k + 1 => brTo D p k || decide (p < D k)
theorem brTo_iff (D : Nat → Nat) (p : Nat) : ∀ k, brTo D p k = true ↔ ∃ j, j < k ∧ p < D j
  | 0 => by simp [brTo]
  | k + 1 => by
    have h := brTo_iff D p k
    unfold brTo
    rw [Bool.or_eq_true, h, decide_eq_true_eq]
    constructor
    · rintro (⟨j, h1, h2⟩ | h1)
      · exact ⟨j, by omega, h2⟩
      · exact ⟨k, by omega, h1⟩
    · rintro ⟨j, h1, h2⟩
      by_cases hjk : j = k
      · subst hjk; exact .inr h2
      · exact .inl ⟨j, by omega, h2⟩
def lessP (n : Int) (es : List (Int × Int)) (k : Nat) : Nat := piecesB n es ((2 ^ es.length - 1 - 2 ^ k : Nat) : Int)
theorem less_round {n : Int} {es : List (Int × Int)} (hn : netOkB n es = true) {P Q k : Nat} (hP : 2 ^ es.length = P) (hQ : P - 1 = Q) (hk : k < es.length) : ∃ K d : Nat, wrap64 (2 ^ k) = (K : Int) ∧ IntKind.i64.wrap (2 ^ k) = (K : Int) ∧ IntKind.i64.wrap ((Q : Int) - (K : Int)) = (d : Int) ∧ piecesI n es (d : Nat) = ((lessP n es k : Nat) : Int) := by
  have h9 := (netOkB_iff.1 hn).2.1
  obtain ⟨K, hK, ⟨k1, k2⟩, hk3, hk4⟩ := pow_named8 (show k ≤ 8 by omega)
  have hp9 : 2 ^ es.length ≤ 2 ^ 9 := Nat.pow_le_pow_right (by omega) h9
  have hlt : 2 ^ k < 2 ^ es.length := Nat.pow_lt_pow_right (by omega) hk
  have hlt2 : 2 ^ es.length - 1 - 2 ^ k < 2 ^ es.length := Nat.lt_of_le_of_lt (Nat.sub_le _ _) (vall_lt _)
  have hpc := piecesI_cast (state_of hn hlt2)
  refine ⟨K, Q - K, hk3, hk4, wrap_down rfl (by rw [← hK, ← hQ, ← hP]; omega) (by rw [← hQ, ← hP]; omega), ?_⟩
  rw [← hQ, ← hP, ← hK]; exact hpc

theorem flowSum_tut {n : Int} {es : List (Int × Int)} (hn : netOkB n es = true) (h6 : es.length ≤ 6) (x : Int) : sumS (flowT n es x) (2 ^ es.length) = tut (flowLeaf x (endsL es).length) (endsL es) (fun x => x) 0 0 := by
  rw [← states_tut _ _ _ _ _ (by rw [endsL_length]; omega), endsL_length]
  refine sumS_congr _ fun s hs => ?_
  unfold flowT flowLeaf
  have e : piecesB n es s = cnt (repL (endsL es) (fun i => s.testBit i) (fun x => x)) n.toNat := by unfold piecesB pcs; rw [rep_ends]; rfl
  have h := rankL_cnt (endsL es) (fun i => s.testBit i) (fun x => x) (endsL_ok hn) (good_id _)
  rw [cnt_id fun _ => rfl] at h
  obtain ⟨k, hk, -⟩ := flow_exp hn h6 hs
  rw [Nat.zero_add, Nat.zero_add, show pop s + piecesB n es s - n.toNat = pop s - rankL (endsL es) (fun i => s.testBit i) (fun x => x) by omega]
theorem flowSumI_tut {n : Int} {es : List (Int × Int)} {x : Int} (h : flowOkB n es x = true) : flowSumI n es x = tut (flowLeaf x (endsL es).length) (endsL es) (fun x => x) 0 0 := by
  have h2 : netOkB n es = true ∧ es.length ≤ 6 ∧ 1 ≤ x ∧ x ≤ 4 := by simpa [flowOkB] using h
  unfold flowSumI
  rw [if_pos h]
  exact flowSum_tut h2.1 h2.2.1 x
theorem flows_sum {n : Int} {es : List (Int × Int)} {x : Int} (h : flowOkB n es x = true) : flowSumI n es x = flowsI n es x := by
  have h2 : netOkB n es = true ∧ es.length ≤ 6 ∧ 1 ≤ x ∧ x ≤ 4 := by simpa [flowOkB] using h
  have ht := flowN_tut (m := x.toNat) (n := n.toNat) (by omega) (endsL_ok h2.1)
  rw [show ((x.toNat : Nat) : Int) = x by omega] at ht
  rw [flowSumI_tut h, flowsI_ok h, ht]
theorem sgn_none (k : Nat) : sgn k 0 = 0 := by
  rcases Nat.mod_two_eq_zero_or_one k with h | h
  · rw [sgn_even (by omega)]
  · rw [sgn_odd h]; rfl
theorem flows_bridge {n : Int} {es : List (Int × Int)} {x : Int} (h : flowOkB n es x = true) (hb : brTo (lessP n es) (piecesB n es ((2 ^ es.length - 1 : Nat) : Int)) es.length = true) : flowsI n es x = 0 := by
  have h2 : netOkB n es = true ∧ es.length ≤ 6 ∧ 1 ≤ x ∧ x ≤ 4 := by simpa [flowOkB] using h
  have ht := flowN_tut (m := x.toNat) (n := n.toNat) (by omega) (endsL_ok h2.1)
  rw [show ((x.toNat : Nat) : Int) = x by omega] at ht
  have hf := val_flow (x := x) (M := (endsL es).length) (es := endsL es) (R := fun x => x) (rkA_len _ _)
  obtain ⟨k, hk, hd⟩ := (brTo_iff _ _ _).1 hb
  have he : endsL es = (endsL es).take k ++ (endsL es)[k]'(by rw [endsL_length]; exact hk) :: (endsL es).drop (k + 1) := by simp
  have hl : ((endsL es).take k).length = k := by simp [endsL_length]; omega
  have hbr := br_at h2.1 he
  rw [hl] at hbr
  have hv : valR 0 (1 - x) (endsL es) (fun x => x) = 0 := by
    rw [he, valR_move, valR_bridge 0 (1 - x) (hbr.1 hd), Int.zero_mul]
  rw [flowsI_ok h, ht, hf, hv, sgn_none]
theorem flows_at_one {n : Int} {es : List (Int × Int)} (hn : netOkB n es = true) (h6 : es.length ≤ 6) : (es.length = 0 ∧ flowsI n es 1 = 1) ∨ (0 < es.length ∧ flowsI n es 1 = 0) := by
  have hok : flowOkB n es 1 = true := by simp only [flowOkB, hn, Bool.true_and, Bool.and_eq_true, decide_eq_true_eq]; omega
  by_cases h0 : es.length = 0
  · refine .inl ⟨h0, ?_⟩
    have ht := flowN_tut (m := 1) (n := n.toNat) (by omega) (endsL_ok hn)
    obtain rfl := List.eq_nil_of_length_eq_zero h0
    rw [flowsI_ok hok]
    exact ht
  · refine .inr ⟨by omega, ?_⟩
    unfold flowsI
    rw [if_pos hok, show (1 : Int).toNat - 1 = 0 by decide, Nat.zero_pow (by omega)]
    rfl
theorem flowsI_small {n : Int} {es : List (Int × Int)} {x : Int} (h : flowOkB n es x = true) : 0 ≤ flowsI n es x := by
  rw [flowsI_ok h]; omega

set_option maxHeartbeats 8000000 in
theorem countFlows_law (A : Option Addr) (cap l : Nat) (w : World) (hb : BytesIn w w.heap.size A l) (hc : l ≤ cap) :
    Calls Try.prog 12 #[.slice A l cap] w fun e w' => e = .returned (.bool true) ∧ Below w.heap.size w w' := by
  by_cases hbig : 1048576 < l
  · go_enter Try.func12, Try.ntmps12
    go_wp2
    go_returns
    exact ⟨rfl, Below.refl _ _⟩
  · have hl : l ≤ 1048576 := by omega
    clear hbig
    go_enter Try.func12, Try.ntmps12
    go_wp2_with fail
    refine (drawCountFlows_any _ _ _ _ hb hl hc).mono ?_
    rintro e1 w1 ⟨n, A1, c, es, x, rfl, ed, n1, n7, hle, hcap, m0, m1, hb1⟩
    have L1 := ArgNet.start (cap := c) (n := n) 29 (ed.edges (Nat.le_refl _))
    have HB := Lib.hid hb1
    have hle' : es.length ≤ 1048576 := by omega
    have s1 := Lib.hid hb1.size
    clear ed hb hb1
    have HI : Hid (∀ u, EdgesIn u u.heap.size A1 es → Calls Try.prog 46 #[.agg #[.int .i64 n, .slice A1 es.length c], .int .i64 x] u fun e w' => e = .returned (.int .i64 (flowsI n es x)) ∧ Below u.heap.size u w') := fun u h => countFlows_any n x A1 c es u h hle'
    have HS : Hid (∀ u, EdgesIn u u.heap.size A1 es → Calls Try.prog 47 #[.agg #[.int .i64 n, .slice A1 es.length c], .int .i64 x] u fun e w' => e = .returned (.int .i64 (flowsI n es x)) ∧ Below u.heap.size u w') := fun u h => specCountFlows_any n x A1 c es u h hle'
    have c0 := L1.c0
    have c1 := L1.c1
    cases hok : flowOkB n es x with
    | false =>
      have hv : flowsI n es x = -1 := if_neg (by rw [hok]; simp)
      rw [hv] at HI HS
      clear hok hv
      go_wp2_with fail
      refine (HI.out _ L1.edges).mono ?_
      rintro e2 w2 ⟨rfl, hb2⟩
      have L2 := L1.step hb2 L1.lt
      clear hb2 L1 c0 c1
      have c0 := L2.c0
      have c1 := L2.c1
      go_wp2_with fail
      refine (HS.out _ L2.edges).mono ?_
      rintro e3 w3 ⟨rfl, hb3⟩
      have L3 := L2.step hb3 L2.lt
      clear hb3 L2 c0 c1
      have c0 := L3.c0
      have c1 := L3.c1
      go_wp2_with fail
      refine (alive_any _).mono ?_
      rintro e4 w4 ⟨rfl, hb4⟩
      have L4 := L3.step hb4 L3.lt
      go_wp2_with fail
      go_returns
      exact ⟨by first | rfl | simp, HB.out.trans (L4.below.mono s1.out)⟩
    | true =>
      have h2 : netOkB n es = true ∧ es.length ≤ 6 ∧ 1 ≤ x ∧ x ≤ 4 := by simpa [flowOkB] using hok
      obtain ⟨hn, h6, -, -⟩ := h2
      have HZ : Hid (brTo (lessP n es) (piecesB n es ((2 ^ es.length - 1 : Nat) : Int)) es.length = true → flowsI n es x = 0) := flows_bridge hok
      have HSU : Hid (∀ u, EdgesIn u u.heap.size A1 es → Calls Try.prog 48 #[.agg #[.int .i64 n, .slice A1 es.length c], .int .i64 x] u fun e w' => e = .returned (.tuple #[.int .i64 (flowsI n es x), .bool true]) ∧ Below u.heap.size u w') := fun u h => by
        have := flowsSum_any n x A1 c es u h hle'
        rw [flows_sum hok, hok] at this
        exact this
      have HO : Hid (∀ u, EdgesIn u u.heap.size A1 es → Calls Try.prog 46 #[.agg #[.int .i64 n, .slice A1 es.length c], .int .i64 1] u fun e w' => e = .returned (.int .i64 (flowsI n es 1)) ∧ Below u.heap.size u w') := fun u h => countFlows_any n 1 A1 c es u h hle'
      have H1 := Lib.hid (flows_at_one hn h6)
      have v0 := flowsI_small hok
      obtain ⟨P, hP, p1, p2, hp3, hp4⟩ := pow_named (show es.length ≤ 9 by omega)
      have HP3 := Lib.hid hp3
      have HP4 := Lib.hid hp4
      clear hp3 hp4
      obtain ⟨Q, hQ⟩ : ∃ Q, P - 1 = Q := ⟨_, rfl⟩
      have wq : IntKind.i64.wrap ((P : Int) - 1) = (Q : Int) := by clear hP HP3 HP4; rw [IntWalk.i64_in _ (by omega)]; omega
      have HRD : Hid (∀ k, k < es.length → ∃ K d : Nat, wrap64 (2 ^ k) = (K : Int) ∧ IntKind.i64.wrap (2 ^ k) = (K : Int) ∧ IntKind.i64.wrap ((Q : Int) - (K : Int)) = (d : Int) ∧ piecesI n es (d : Nat) = ((lessP n es k : Nat) : Int)) := fun k hk => less_round hn hP hQ hk
      have HPC : Hid (∀ (d : Nat) u, ArgNet w1 u n A1 c es → Calls Try.prog 49 #[.agg #[.int .i64 n, .slice A1 es.length c], .int .i64 (d : Nat)] u fun e w' => e = .returned (.int .i64 (piecesI n es (d : Nat))) ∧ Below u.heap.size u w') := fun d u h => piecesIn_any n d A1 c es u h.edges hle'
      have hpq := piecesI_cast (state_of hn (vall_lt es.length))
      rw [hP, hQ] at HZ hpq
      have HQ := Lib.hid (HPC.out Q)
      rw [hpq] at HQ
      clear hP hok hpq hn
      generalize flowsI n es x = V at *
      generalize flowsI n es 1 = O at *
      generalize piecesB n es (Q : Nat) = p at *
      generalize lessP n es = D at *
      have h9i : ¬ (9 : Int) < es.length := by omega
      have hv0 : ¬ V < 0 := by omega
      go_wp2_with fail
      refine (HI.out _ L1.edges).mono ?_
      rintro e2 w2 ⟨rfl, hb2⟩
      have L2 := L1.step hb2 L1.lt
      clear hb2 L1 c0 c1
      have c0 := L2.c0
      have c1 := L2.c1
      go_wp2_with fail
      refine (HS.out _ L2.edges).mono ?_
      rintro e3 w3 ⟨rfl, hb3⟩
      have L3 := L2.step hb3 L2.lt
      clear hb3 L2 c0 c1
      have c0 := L3.c0
      have c1 := L3.c1
      go_wp2_with fail
      refine (HSU.out _ L3.edges).mono ?_
      rintro e4 w4 ⟨rfl, hb4⟩
      have L4 := L3.step hb4 L3.lt
      clear hb4 L3 c0 c1
      have c0 := L4.c0
      have c1 := L4.c1
      have hp3 := HP3.out
      have hp4 := HP4.out
      clear HI HS HSU
      have H9 := Lib.hid h6
      have HCP := Lib.hid hcap
      clear hle hle' h6 hcap p1 p2 n1 n7 m0 m1 hQ
      go_wp2_with fail
      clear hp3 hp4 HP3 HP4
      go_loopw [9, 10] (fun v i wr => ∃ k : Nat, k ≤ es.length ∧ i = .int .i64 (k : Nat) ∧ v = .bool (brTo D p k) ∧ ArgNet w1 wr n A1 c es) (fun _ i _ => es.length - (intOf i).toNat)
      case atStart => exact ⟨0, by omega, rfl, rfl, L4⟩
      case round =>
        clear L4 c0 c1
        obtain ⟨k, hk, rfl, rfl, L⟩ := hrel
        have c0 := L.c0
        have c1 := L.c1
        by_cases hkl : k < es.length
        · have hkl' : (k : Int) < es.length := by omega
          have HX : Hid (brTo D p (k + 1) = (brTo D p k || decide (p < D k))) := rfl
          obtain ⟨K, d, x1, x2, x3, x4⟩ := HRD.out k hkl
          have HD := Lib.hid (HPC.out d)
          rw [x4] at HD
          have hk8 : ¬ (8 : Int) < k := by have := H9.out; omega
          clear x4
          generalize D k = t at *
          cases hb : brTo D p k with
          | true =>
            rw [hb] at HX
            clear x1 x2
            go_wp2_with fail
            refine wp_region_class (fun u => ArgNet w1 u n A1 c es) (by kernel_rfl) (by kernel_rfl) L.drew ?_
            clear L c0 c1
            intro X hX f hf hex
            have k0 : ∀ x, (f x).cell? ⟨w1.heap.size, 0, none⟩ = some (.int .i64 n) := fun x => (hf x).c0
            have k1 : ∀ x, (f x).cell? ⟨w1.heap.size, 1, none⟩ = some (.slice A1 es.length c) := fun x => (hf x).c1
            repeat (go_big_quiet_step (fail))
            refine wpQuiet_nil ?_
            rintro _ ⟨x9, rfl⟩
            have F := hf x9
            clear hf hex k0 k1
            go_wp2_with fail
            go_roundw
            case rel => exact ⟨k + 1, by omega, by go_num, by rw [HX.out]; first | rfl | (simp; done) | (simp; omega), F⟩
            case measure => simp [intOf]; omega
          | false =>
            rw [hb] at HX
            by_cases hd : p < t
            · have hd1 : (p : Int) < (t : Int) := by omega
              rw [decide_eq_true hd] at HX
              clear hd
              go_wp2_with fail
              refine wp_region_class (fun u => ArgNet w1 u n A1 c es) (by kernel_rfl) (by kernel_rfl) L.drew ?_
              clear L c0 c1
              intro X hX f hf hex
              have k0 : ∀ x, (f x).cell? ⟨w1.heap.size, 0, none⟩ = some (.int .i64 n) := fun x => (hf x).c0
              have k1 : ∀ x, (f x).cell? ⟨w1.heap.size, 1, none⟩ = some (.slice A1 es.length c) := fun x => (hf x).c1
              repeat (go_big_quiet_step (first | (go_at_call 49; with_reducible exact class_of hex (HD.out _ (hf _)) (hf _).on) | (go_at_call 49; with_reducible exact class_of hex (HQ.out _ (hf _)) (hf _).on)))
              refine wpQuiet_nil ?_
              rintro _ ⟨x9, rfl⟩
              have F := hf x9
              clear hf hex k0 k1
              go_wp2_with fail
              go_roundw
              case rel => exact ⟨k + 1, by omega, by go_num, by rw [HX.out]; first | rfl | (simp; done) | (simp; omega), F⟩
              case measure => simp [intOf]; omega
            · have hd1 : ¬ (p : Int) < (t : Int) := by omega
              rw [decide_eq_false hd] at HX
              clear hd
              go_wp2_with fail
              refine wp_region_class (fun u => ArgNet w1 u n A1 c es) (by kernel_rfl) (by kernel_rfl) L.drew ?_
              clear L c0 c1
              intro X hX f hf hex
              have k0 : ∀ x, (f x).cell? ⟨w1.heap.size, 0, none⟩ = some (.int .i64 n) := fun x => (hf x).c0
              have k1 : ∀ x, (f x).cell? ⟨w1.heap.size, 1, none⟩ = some (.slice A1 es.length c) := fun x => (hf x).c1
              repeat (go_big_quiet_step (first | (go_at_call 49; with_reducible exact class_of hex (HD.out _ (hf _)) (hf _).on) | (go_at_call 49; with_reducible exact class_of hex (HQ.out _ (hf _)) (hf _).on)))
              refine wpQuiet_nil ?_
              rintro _ ⟨x9, rfl⟩
              have F := hf x9
              clear hf hex k0 k1
              go_wp2_with fail
              go_roundw
              case rel => exact ⟨k + 1, by omega, by go_num, by rw [HX.out]; first | rfl | (simp; done) | (simp; omega), F⟩
              case measure => simp [intOf]; omega
        · obtain rfl : k = es.length := by omega
          have hkk : ¬ (es.length : Int) < es.length := by omega
          rcases H1.out with ⟨h0, hO⟩ | ⟨h0, hO⟩
          · have e0 : (es.length : Int) = 0 := by omega
            have e1 : ((es.length : Int) == 0) = true := beq_iff_eq.2 e0
            subst hO
            clear h0 H1
            cases hb : brTo D p es.length with
            | true =>
              have hv := HZ.out hb
              subst hv
              go_wp2_with fail
              refine (HO.out _ L.edges).mono ?_
              rintro e7 w7 ⟨rfl, hb7⟩
              replace L := L.step hb7 L.lt
              clear hb7 c0 c1
              have c0 := L.c0
              have c1 := L.c1
              go_wp2_with fail
              go_returns
              exact ⟨by first | rfl | (simp; done) | (simp; omega), HB.out.trans (L.below.mono s1.out)⟩
            | false =>
              go_wp2_with fail
              refine (HO.out _ L.edges).mono ?_
              rintro e7 w7 ⟨rfl, hb7⟩
              replace L := L.step hb7 L.lt
              clear hb7 c0 c1
              have c0 := L.c0
              have c1 := L.c1
              go_wp2_with fail
              go_returns
              exact ⟨by first | rfl | (simp; done) | (simp; omega), HB.out.trans (L.below.mono s1.out)⟩
          · have e0 : ¬ (es.length : Int) = 0 := by omega
            have e1 : ((es.length : Int) == 0) = false := beq_eq_false_iff_ne.2 e0
            subst hO
            clear h0 H1
            cases hb : brTo D p es.length with
            | true =>
              have hv := HZ.out hb
              subst hv
              go_wp2_with fail
              refine (HO.out _ L.edges).mono ?_
              rintro e7 w7 ⟨rfl, hb7⟩
              replace L := L.step hb7 L.lt
              clear hb7 c0 c1
              have c0 := L.c0
              have c1 := L.c1
              go_wp2_with fail
              go_returns
              exact ⟨by first | rfl | (simp; done) | (simp; omega), HB.out.trans (L.below.mono s1.out)⟩
            | false =>
              go_wp2_with fail
              refine (HO.out _ L.edges).mono ?_
              rintro e7 w7 ⟨rfl, hb7⟩
              replace L := L.step hb7 L.lt
              clear hb7 c0 c1
              have c0 := L.c0
              have c1 := L.c1
              go_wp2_with fail
              go_returns
              exact ⟨by first | rfl | (simp; done) | (simp; omega), HB.out.trans (L.below.mono s1.out)⟩

namespace fnCountFlows
open Go.ChangeShapes Go.WideShapes Go.ChangeAt Go.RowKit Go.Deep Go.Joins
set_option linter.unusedVariables false
set_option maxRecDepth 100000 in
theorem lifted (os : Os) (started : os.Started) (H : Type) (enc : TypeId × Value → H) :
    ReturnsInHanded {} Try.checked os 12 .any (Rows.fnCountFlowsSpec.pre6 enc Try.prog Try.f12 Rows.fnCountFlowsRow.domain false) (Rows.fnCountFlowsSpec.post enc Try.prog Try.f12 false true false false) := by
  refine returnsInHanded_of_change (C := Try.checked) own started (by kernel_rfl) Try.func12
    (ChangeSpec.witness6 (enc := enc) (C := Try.checked) false ⟨#[], #[.slice none 0 0], []⟩ 8 (by kernel_rfl) (by kernel_rfl) (by kernel_rfl) (by kernel_rfl)) ?_
  intro W base args ds gs before hval0 hW hcnd _
  have hval : ∀ (j : Nat) t v, Try.f12.params[j]? = some t → args[j]? = some v → Value.okWide Try.prog W .any base t v := hval0
  have hW' := hW
  obtain ⟨p, q, hA0, hV, rfl, hfz, hnd⟩ := hW
  have hA : DataW.TrodAll enc Try.prog W 0 (fun _ => true) true Try.f12.params.toList args.toList ds p := hA0
  rw [Try.params12] at hA hval
  obtain ⟨v0, vs0, d0, ds0, p0, q0, hargs, rfl, rfl, h0, r0⟩ := trodAll_cons hA
  obtain ⟨rfl, rfl, rfl⟩ := trodAll_nil r0
  obtain rfl : args = #[v0] := by cases args; simp_all
  obtain ⟨rfl, rfl⟩ := trodVars_none hV
  have k0 := h0
  have lt0 : ∀ x ∈ p0, x.block < W.heap.size := by obtain ⟨m, hm⟩ := k0; exact DataW.trod_lt m _ _ _ hm
  obtain ⟨A0, c0, bs0, rfl, hb0, hl0⟩ := open_bytes (hval 0 44 v0 rfl rfl) h0
  clear hA0 hval0
  refine (countFlows_law A0 c0 bs0 W hb0 hl0).mono fun e W' ⟨he, bel⟩ => ?_
  subst he
  exact ⟨_, rfl, _, _, _, [], _, [], hW', trodAll_mk1 (shut_bool Try.underlying4 _), (trodAll_cons_mk (Below.trod laidOut (by kernel_rfl) (of_decide_eq_true (by kernel_rfl)) k0 bel lt0) trodAll_mk0), rfl, bel.frame _, fun h => by cases h⟩

theorem holds : Rows.FnCountFlowsSaid :=
  OpenClaim.holds_of_wide 12 Try.f12 rfl rfl rfl rfl rfl rfl rfl ⟨rfl, rfl, rfl, rfl, rfl⟩ rfl rfl rfl rfl rfl (by kernel_rfl) Try.func12 (by kernel_rfl)
    (of_decide_eq_true (by kernel_rfl)) (by unfold Func.isWrapper; first | (rw [if_pos (by decide +kernel)]; kernel_rfl) | (rw [if_neg (by decide +kernel)]; exact ⟨rfl, rfl⟩))
    (fun os started H enc _ => lifted os started H enc)
end fnCountFlows
end Go.Proofs.Ytdacfeebidhgnaa
