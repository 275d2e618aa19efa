/- The law FnPaintedSum holds of every code: the program answers as the reference does; of minus 1 the sum is how many arrows never lead back, with the sign of the nodes; of 0 it is 0; of 1 it is 1 without edges, and else 0. -/
import Derived.Test.YtgacgaidlbkkmaaBytes
import Derived.Test.YtgacgaidlbkkmaaDraw10
import Derived.Test.YtgacgaidlbkkmaaImpl10d
namespace Go.Proofs.Ytgacgaidlbkkmaa
open Go.RowKit
set_option maxRecDepth 100000

theorem paintSum_tut {n : Int} {es : List (Int × Int)} (hn : netOkB n es = true) (x : Int) : sumS (paintT n es x) (2 ^ es.length) = tut (paintLeaf x n.toNat) (endsL es) (fun x => x) 0 0 := by
  have h9 := (netOkB_iff.1 hn).2.1
  rw [← states_tut _ _ _ _ _ (by rw [endsL_length]; omega), endsL_length]
  refine sumS_congr _ fun s _ => ?_
  unfold paintT paintLeaf
  have e : piecesB n es s = cnt (repL (endsL es) (fun i => s.testBit i) (fun x => x)) n.toNat := by unfold piecesB pcs; rw [rep_ends]; rfl
  have h := rankL_cnt (endsL es) (fun i => s.testBit i) (fun x => x) (endsL_ok hn) (good_id _)
  rw [cnt_id fun _ => rfl] at h
  rw [Nat.zero_add, Nat.zero_add, e, show n.toNat - rankL (endsL es) (fun i => s.testBit i) (fun x => x) = cnt (repL (endsL es) (fun i => s.testBit i) (fun x => x)) n.toNat by omega]
theorem paintSumI_tut {n : Int} {es : List (Int × Int)} {x : Int} (h : sumOkB n es x = true) : paintSumI n es x = tut (paintLeaf x n.toNat) (endsL es) (fun x => x) 0 0 := by
  unfold paintSumI
  rw [if_pos h]
  exact paintSum_tut (by simp [sumOkB] at h; exact h.1) x
theorem sumOk_of {n : Int} {es : List (Int × Int)} (hn : netOkB n es = true) {x : Int} (h1 : -4 ≤ x) (h2 : x ≤ 4) : sumOkB n es x = true := by simp [sumOkB, hn]; omega
theorem paintSum_zero {n : Int} {es : List (Int × Int)} (hn : netOkB n es = true) : paintSumI n es 0 = 0 := by
  have h1 := netOkB_iff.1 hn
  rw [paintSumI_tut (sumOk_of hn (by omega) (by omega)), paint_none (by omega) (endsL_ok hn)]
theorem paintSum_one {n : Int} {es : List (Int × Int)} (hn : netOkB n es = true) : paintSumI n es 1 = if es.length = 0 then 1 else 0 := by
  rw [paintSumI_tut (sumOk_of hn (by omega) (by omega)), paint_one, endsL_length, sgn_zero]
theorem paintSum_minus {n : Int} {es : List (Int × Int)} (hn : netOkB n es = true) : sgn n.toNat (paintSumI n es (-1)) = noBackI n es := by
  have h1 := netOkB_iff.1 hn
  rw [paintSumI_tut (sumOk_of hn (by omega) (by omega)), paint_minus (by omega) (endsL_ok hn), noBackI_ok hn]
theorem paintSum_bound (n : Int) (es : List (Int × Int)) {x : Int} (h1 : -4 ≤ x) (h2 : x ≤ 4) (hn : netOkB n es = true) : -2097152 ≤ paintSumI n es x ∧ paintSumI n es x ≤ 2097152 := by
  unfold paintSumI
  rw [if_pos (sumOk_of hn h1 h2)]
  obtain ⟨P, hP, p1, p2, -, -⟩ := pow_named (netOkB_iff.1 hn).2.1
  rw [hP]
  exact sumS_small (fun k => paintT_bound hn h1 h2 k) p2

set_option maxHeartbeats 8000000 in
theorem paintedSum_law (A : Option Addr) (cap l : Nat) (w : World) (hb : BytesIn w w.heap.size A l) (hc : l ≤ cap) :
    Calls Try.prog 4 #[.slice A l cap] w fun e w' => e = .returned (.bool true) ∧ Below w.heap.size w w' := by
  by_cases hbig : 1048576 < l
  · go_enter Try.func4, Try.ntmps4
    go_wp2
    go_returns
    exact ⟨rfl, Below.refl _ _⟩
  · have hl : l ≤ 1048576 := by omega
    clear hbig
    go_enter Try.func4, Try.ntmps4
    go_wp2_with fail
    refine (drawPaintedSum_any _ _ _ _ hb hl hc).mono ?_
    rintro e1 w1 ⟨n, A1, c, es, x, rfl, ed, n1, n7, hle, hcap, m0, m1, hb1⟩
    have L1 := ArgNet.start (cap := c) (n := n) 25 (ed.edges (Nat.le_refl _))
    have HB := Lib.hid hb1
    have hle' : es.length ≤ 1048576 := by omega
    have s1 := hb1.size
    clear ed hb hb1
    have HI : Hid (∀ (y : Int) (u : World), EdgesIn u u.heap.size A1 es → Calls Try.prog 19 #[.agg #[.int .i64 n, .slice A1 es.length c], .int .i64 y] u fun e w' => e = .returned (.tuple #[.int .i64 (paintSumI n es y), .bool (sumOkB n es y)]) ∧ Below u.heap.size u w') := fun y u h => paintedSum_any n y A1 c es u h hle'
    have HS : Hid (∀ u, EdgesIn u u.heap.size A1 es → Calls Try.prog 23 #[.agg #[.int .i64 n, .slice A1 es.length c], .int .i64 x] u fun e w' => e = .returned (.tuple #[.int .i64 (paintSumI n es x), .bool (sumOkB n es x)]) ∧ Below u.heap.size u w') := fun u h => specPaintedSum_any n x A1 c es u h hle'
    cases hok : sumOkB n es x with
    | false =>
      have hv : paintSumI n es x = 0 := if_neg (by rw [hok]; simp)
      have HX := Lib.hid (HI.out x)
      rw [hok, hv] at HX HS
      have c0 := L1.c0
      have c1 := L1.c1
      clear HI
      go_wp2_with fail
      refine (HX.out _ L1.edges).mono ?_
      rintro e2 w2 ⟨rfl, hb2⟩
      have L2 := L1.step hb2 L1.lt
      clear hb2 L1 c0 c1
      have c0 := L2.c0
      have c1 := L2.c1
      go_wp2_with fail
      refine (HS.out _ L2.edges).mono ?_
      rintro e3 w3 ⟨rfl, hb3⟩
      have L3 := L2.step hb3 L2.lt
      clear hb3 L2 c0 c1
      go_wp2_with fail
      refine (alive_any _).mono ?_
      rintro e4 w4 ⟨rfl, hb4⟩
      have L4 := L3.step hb4 L3.lt
      go_wp2_with fail
      go_returns
      exact ⟨rfl, HB.out.trans (L4.below.mono s1)⟩
    | true =>
      have hn : netOkB n es = true := by simp [sumOkB] at hok; exact hok.1
      have HM := Lib.hid (HI.out (-1))
      have HZ := Lib.hid (HI.out 0)
      have HO := Lib.hid (HI.out 1)
      have HX := Lib.hid (HI.out x)
      rw [sumOk_of hn (by omega) (by omega)] at HM
      rw [sumOk_of hn (by omega) (by omega), paintSum_zero hn] at HZ
      rw [sumOk_of hn (by omega) (by omega), paintSum_one hn] at HO
      rw [hok] at HX HS
      have hbd := paintSum_bound n es (x := -1) (by omega) (by omega) hn
      have hmi := paintSum_minus hn
      have HC : Hid (∀ u, EdgesIn u u.heap.size A1 es → Calls Try.prog 24 #[.agg #[.int .i64 n, .slice A1 es.length c]] u fun e w' => e = .returned (.int .i64 (noBackI n es)) ∧ Below u.heap.size u w') := fun u h => countNoBack_any n A1 c es u h hle'
      generalize noBackI n es = Z at *
      generalize paintSumI n es (-1) = Y at *
      generalize paintSumI n es x = X at *
      have hnn := (netOkB_iff.1 hn).1
      obtain ⟨m, rfl⟩ : ∃ m : Nat, n = m := ⟨n.toNat, by omega⟩
      rw [Int.toNat_natCast] at hmi
      have htm := mod_nat2 m
      have c0 := L1.c0
      have c1 := L1.c1
      clear HI hn hok
      by_cases hz : es.length = 0
      · rw [if_pos hz] at HO
        have hz1 : ((es.length : Int) == 0) = true := by rw [beq_iff_eq]; omega
        have HLE := Lib.hid hle'
        clear hz hle hle' hcap
        by_cases hodd : m % 2 = 1
        · rw [sgn_odd hodd] at hmi
          rw [hodd] at htm
          obtain ⟨wn1, wn2⟩ : IntKind.i64.wrap (-Y) = -Y ∧ wrap64 (-Y) = -Y := ⟨IntWalk.i64_in _ (by omega), by unfold wrap64; omega⟩
          subst hmi
          clear hodd hbd
          go_wp2_with fail
          refine (HX.out _ L1.edges).mono ?_
          rintro e2 w2 ⟨rfl, hb2⟩
          have L2 := L1.step hb2 L1.lt
          clear hb2 L1 c0 c1
          have c0 := L2.c0
          have c1 := L2.c1
          go_wp2_with fail
          refine (HS.out _ L2.edges).mono ?_
          rintro e3 w3 ⟨rfl, hb3⟩
          have L3 := L2.step hb3 L2.lt
          clear hb3 L2 c0 c1
          have c0 := L3.c0
          have c1 := L3.c1
          go_wp2_with fail
          refine (HM.out _ L3.edges).mono ?_
          rintro e4 w4 ⟨rfl, hb4⟩
          have L4 := L3.step hb4 L3.lt
          clear hb4 L3 c0 c1
          have c0 := L4.c0
          have c1 := L4.c1
          go_wp2_with fail
          refine (HZ.out _ L4.edges).mono ?_
          rintro e5 w5 ⟨rfl, hb5⟩
          have L5 := L4.step hb5 L4.lt
          clear hb5 L4 c0 c1
          have c0 := L5.c0
          have c1 := L5.c1
          go_wp2_with fail
          refine (HO.out _ L5.edges).mono ?_
          rintro e6 w6 ⟨rfl, hb6⟩
          have L6 := L5.step hb6 L5.lt
          clear hb6 L5 c0 c1
          have c0 := L6.c0
          have c1 := L6.c1
          go_wp2_with fail
          refine (HC.out _ L6.edges).mono ?_
          rintro e7 w7 ⟨rfl, hb7⟩
          have L7 := L6.step hb7 L6.lt
          clear hb7 L6 c0 c1
          have c0 := L7.c0
          have c1 := L7.c1
          go_wp2_with fail
          go_returns
          exact ⟨by first | rfl | simp, HB.out.trans (L7.below.mono s1)⟩
        · rw [sgn_even hodd] at hmi
          rw [show m % 2 = 0 by omega] at htm
          subst hmi
          clear hodd hbd
          go_wp2_with fail
          refine (HX.out _ L1.edges).mono ?_
          rintro e2 w2 ⟨rfl, hb2⟩
          have L2 := L1.step hb2 L1.lt
          clear hb2 L1 c0 c1
          have c0 := L2.c0
          have c1 := L2.c1
          go_wp2_with fail
          refine (HS.out _ L2.edges).mono ?_
          rintro e3 w3 ⟨rfl, hb3⟩
          have L3 := L2.step hb3 L2.lt
          clear hb3 L2 c0 c1
          have c0 := L3.c0
          have c1 := L3.c1
          go_wp2_with fail
          refine (HM.out _ L3.edges).mono ?_
          rintro e4 w4 ⟨rfl, hb4⟩
          have L4 := L3.step hb4 L3.lt
          clear hb4 L3 c0 c1
          have c0 := L4.c0
          have c1 := L4.c1
          go_wp2_with fail
          refine (HZ.out _ L4.edges).mono ?_
          rintro e5 w5 ⟨rfl, hb5⟩
          have L5 := L4.step hb5 L4.lt
          clear hb5 L4 c0 c1
          have c0 := L5.c0
          have c1 := L5.c1
          go_wp2_with fail
          refine (HO.out _ L5.edges).mono ?_
          rintro e6 w6 ⟨rfl, hb6⟩
          have L6 := L5.step hb6 L5.lt
          clear hb6 L5 c0 c1
          have c0 := L6.c0
          have c1 := L6.c1
          go_wp2_with fail
          refine (HC.out _ L6.edges).mono ?_
          rintro e7 w7 ⟨rfl, hb7⟩
          have L7 := L6.step hb7 L6.lt
          clear hb7 L6 c0 c1
          have c0 := L7.c0
          have c1 := L7.c1
          go_wp2_with fail
          go_returns
          exact ⟨by first | rfl | simp, HB.out.trans (L7.below.mono s1)⟩
      · rw [if_neg hz] at HO
        have hz1 : ((es.length : Int) == 0) = false := by rw [beq_eq_false_iff_ne]; omega
        have hz2 : ¬ (es.length : Int) = 0 := by omega
        clear hz
        by_cases hodd : m % 2 = 1
        · rw [sgn_odd hodd] at hmi
          rw [hodd] at htm
          obtain ⟨wn1, wn2⟩ : IntKind.i64.wrap (-Y) = -Y ∧ wrap64 (-Y) = -Y := ⟨IntWalk.i64_in _ (by omega), by unfold wrap64; omega⟩
          subst hmi
          clear hodd hbd
          go_wp2_with fail
          refine (HX.out _ L1.edges).mono ?_
          rintro e2 w2 ⟨rfl, hb2⟩
          have L2 := L1.step hb2 L1.lt
          clear hb2 L1 c0 c1
          have c0 := L2.c0
          have c1 := L2.c1
          go_wp2_with fail
          refine (HS.out _ L2.edges).mono ?_
          rintro e3 w3 ⟨rfl, hb3⟩
          have L3 := L2.step hb3 L2.lt
          clear hb3 L2 c0 c1
          have c0 := L3.c0
          have c1 := L3.c1
          go_wp2_with fail
          refine (HM.out _ L3.edges).mono ?_
          rintro e4 w4 ⟨rfl, hb4⟩
          have L4 := L3.step hb4 L3.lt
          clear hb4 L3 c0 c1
          have c0 := L4.c0
          have c1 := L4.c1
          go_wp2_with fail
          refine (HZ.out _ L4.edges).mono ?_
          rintro e5 w5 ⟨rfl, hb5⟩
          have L5 := L4.step hb5 L4.lt
          clear hb5 L4 c0 c1
          have c0 := L5.c0
          have c1 := L5.c1
          go_wp2_with fail
          refine (HO.out _ L5.edges).mono ?_
          rintro e6 w6 ⟨rfl, hb6⟩
          have L6 := L5.step hb6 L5.lt
          clear hb6 L5 c0 c1
          have c0 := L6.c0
          have c1 := L6.c1
          go_wp2_with fail
          refine (HC.out _ L6.edges).mono ?_
          rintro e7 w7 ⟨rfl, hb7⟩
          have L7 := L6.step hb7 L6.lt
          clear hb7 L6 c0 c1
          have c0 := L7.c0
          have c1 := L7.c1
          go_wp2_with fail
          go_returns
          exact ⟨by first | rfl | simp, HB.out.trans (L7.below.mono s1)⟩
        · rw [sgn_even hodd] at hmi
          rw [show m % 2 = 0 by omega] at htm
          subst hmi
          clear hodd hbd
          go_wp2_with fail
          refine (HX.out _ L1.edges).mono ?_
          rintro e2 w2 ⟨rfl, hb2⟩
          have L2 := L1.step hb2 L1.lt
          clear hb2 L1 c0 c1
          have c0 := L2.c0
          have c1 := L2.c1
          go_wp2_with fail
          refine (HS.out _ L2.edges).mono ?_
          rintro e3 w3 ⟨rfl, hb3⟩
          have L3 := L2.step hb3 L2.lt
          clear hb3 L2 c0 c1
          have c0 := L3.c0
          have c1 := L3.c1
          go_wp2_with fail
          refine (HM.out _ L3.edges).mono ?_
          rintro e4 w4 ⟨rfl, hb4⟩
          have L4 := L3.step hb4 L3.lt
          clear hb4 L3 c0 c1
          have c0 := L4.c0
          have c1 := L4.c1
          go_wp2_with fail
          refine (HZ.out _ L4.edges).mono ?_
          rintro e5 w5 ⟨rfl, hb5⟩
          have L5 := L4.step hb5 L4.lt
          clear hb5 L4 c0 c1
          have c0 := L5.c0
          have c1 := L5.c1
          go_wp2_with fail
          refine (HO.out _ L5.edges).mono ?_
          rintro e6 w6 ⟨rfl, hb6⟩
          have L6 := L5.step hb6 L5.lt
          clear hb6 L5 c0 c1
          have c0 := L6.c0
          have c1 := L6.c1
          go_wp2_with fail
          refine (HC.out _ L6.edges).mono ?_
          rintro e7 w7 ⟨rfl, hb7⟩
          have L7 := L6.step hb7 L6.lt
          clear hb7 L6 c0 c1
          have c0 := L7.c0
          have c1 := L7.c1
          go_wp2_with fail
          go_returns
          exact ⟨by first | rfl | simp, HB.out.trans (L7.below.mono s1)⟩

namespace fnPaintedSum
open Go.ChangeShapes Go.WideShapes Go.ChangeAt Go.RowKit Go.Deep Go.Joins
set_option linter.unusedVariables false
set_option maxRecDepth 100000 in
theorem lifted (os : Os) (started : os.Started) (H : Type) (enc : TypeId × Value → H) :
    ReturnsInHanded {} Try.checked os 4 .any (Rows.fnPaintedSumSpec.pre6 enc Try.prog Try.f4 Rows.fnPaintedSumRow.domain false) (Rows.fnPaintedSumSpec.post enc Try.prog Try.f4 false true false false) := by
  refine returnsInHanded_of_change (C := Try.checked) own started (by kernel_rfl) Try.func4
    (ChangeSpec.witness6 (enc := enc) (C := Try.checked) false ⟨#[], #[.slice none 0 0], []⟩ 8 (by kernel_rfl) (by kernel_rfl) (by kernel_rfl) (by kernel_rfl)) ?_
  intro W base args ds gs before hval0 hW hcnd _
  have hval : ∀ (j : Nat) t v, Try.f4.params[j]? = some t → args[j]? = some v → Value.okWide Try.prog W .any base t v := hval0
  have hW' := hW
  obtain ⟨p, q, hA0, hV, rfl, hfz, hnd⟩ := hW
  have hA : DataW.TrodAll enc Try.prog W 0 (fun _ => true) true Try.f4.params.toList args.toList ds p := hA0
  rw [Try.params4] at hA hval
  obtain ⟨v0, vs0, d0, ds0, p0, q0, hargs, rfl, rfl, h0, r0⟩ := trodAll_cons hA
  obtain ⟨rfl, rfl, rfl⟩ := trodAll_nil r0
  obtain rfl : args = #[v0] := by cases args; simp_all
  obtain ⟨rfl, rfl⟩ := trodVars_none hV
  have k0 := h0
  have lt0 : ∀ x ∈ p0, x.block < W.heap.size := by obtain ⟨m, hm⟩ := k0; exact DataW.trod_lt m _ _ _ hm
  obtain ⟨A0, c0, bs0, rfl, hb0, hl0⟩ := open_bytes (hval 0 22 v0 rfl rfl) h0
  clear hA0 hval0
  refine (paintedSum_law A0 c0 bs0 W hb0 hl0).mono fun e W' ⟨he, bel⟩ => ?_
  subst he
  exact ⟨_, rfl, _, _, _, [], _, [], hW', trodAll_mk1 (shut_bool Try.underlying4 _), (trodAll_cons_mk (Below.trod laidOut (by kernel_rfl) (of_decide_eq_true (by kernel_rfl)) k0 bel lt0) trodAll_mk0), rfl, bel.frame _, fun h => by cases h⟩

theorem holds : Rows.FnPaintedSumSaid :=
  OpenClaim.holds_of_wide 4 Try.f4 rfl rfl rfl rfl rfl rfl rfl ⟨rfl, rfl, rfl, rfl, rfl⟩ rfl rfl rfl rfl rfl (by kernel_rfl) Try.func4 (by kernel_rfl)
    (of_decide_eq_true (by kernel_rfl)) (by unfold Func.isWrapper; first | (rw [if_pos (by decide +kernel)]; kernel_rfl) | (rw [if_neg (by decide +kernel)]; exact ⟨rfl, rfl⟩))
    (fun os started H enc _ => lifted os started H enc)
end fnPaintedSum
end Go.Proofs.Ytgacgaidlbkkmaa
