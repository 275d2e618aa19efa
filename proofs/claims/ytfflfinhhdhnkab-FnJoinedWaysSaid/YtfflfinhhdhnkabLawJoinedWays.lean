/- The law FnJoinedWays holds of every code: with one part more it is not less, without any part it is 0, at most all ways, and the same for both nodes exchanged. -/
import Derived.Test.YtfflfinhhdhnkabBytes
import Derived.Test.YtfflfinhhdhnkabDraw5
import Derived.Test.YtfflfinhhdhnkabSpec5
import Derived.Test.YtfflfinhhdhnkabImpl5
import Derived.Test.YtfflfinhhdhnkabObj
namespace Go.Proofs.Ytfflfinhhdhnkab
open Go.RowKit
set_option maxRecDepth 100000

theorem joiningL_swap (n : Int) (es : List (Int × Int)) (a b : Int) : joiningL n es b a = joiningL n es a b := by
  have h : joinOkB n es b a = joinOkB n es a b := by
    rw [Bool.eq_iff_iff, joinOkB_iff, joinOkB_iff]
    constructor
    · rintro ⟨h1, h2, h3, h4⟩; exact ⟨h1, h3, h2, fun e => h4 e.symm⟩
    · rintro ⟨h1, h2, h3, h4⟩; exact ⟨h1, h3, h2, fun e => h4 e.symm⟩
  unfold joiningL
  rw [h]
  split
  · exact rowL_congr fun k _ => by rw [joinC_swap]
  · rfl

set_option maxHeartbeats 4000000 in
theorem joinedWays_law (A : Option Addr) (cap l : Nat) (w : World) (hb : BytesIn w w.heap.size A l) (hc : l ≤ cap) :
    Calls Try.prog 3 #[.slice A l cap] w fun e w' => e = .returned (.bool true) ∧ Below w.heap.size w w' := by
  by_cases hbig : 1048576 < l
  · go_enter Try.func3, Try.ntmps3
    go_wp2
    go_returns
    exact ⟨rfl, Below.refl _ _⟩
  · have hl : l ≤ 1048576 := by omega
    clear hbig
    go_enter Try.func3, Try.ntmps3
    go_wp2_with fail
    refine (drawJoinedWays_any _ _ _ _ hb hl hc).mono ?_
    rintro e1 w1 ⟨n, A1, c, es, a, b, p, m, rfl, own, n1, n7, hle, a1, a2, b1, b2, p0, p1, m0, m1, hb1⟩
    have L1 := ArgNet.start (cap := c) (n := n) 25 own.edges
    have HB := Lib.hid hb1
    have hle' : es.length ≤ 1048576 := by omega
    have s1 := hb1.size
    clear own hb hb1
    have HI : Hid (∀ u, EdgesIn u u.heap.size A1 es → Calls Try.prog 10 #[.agg #[.int .i64 n, .slice A1 es.length c], .int .i64 a, .int .i64 b, .int .i64 p, .int .i64 m] u fun e w' => e = .returned (.int .i64 (waysI (joiningL n es a b) p m)) ∧ Below u.heap.size u w') := fun u h => joinedWays_any n a b p m A1 c es u h hle'
    have HS : Hid (∀ u, EdgesIn u u.heap.size A1 es → Calls Try.prog 11 #[.agg #[.int .i64 n, .slice A1 es.length c], .int .i64 a, .int .i64 b, .int .i64 p, .int .i64 m] u fun e w' => e = .returned (.int .i64 (waysI (joiningL n es a b) p m)) ∧ Below u.heap.size u w') := fun u h => specJoinedWays_any n a b p m A1 c es u h hle'
    by_cases hok : joinOkB n es a b = true ∧ chanceB p m = true
    · obtain ⟨l1, l2, l3, l4⟩ := joinW_law hok.1 hok.2
      have HM : Hid (∀ u, EdgesIn u u.heap.size A1 es → Calls Try.prog 10 #[.agg #[.int .i64 n, .slice A1 es.length c], .int .i64 a, .int .i64 b, .int .i64 (p + 1), .int .i64 m] u fun e w' => e = .returned (.int .i64 (waysI (joiningL n es a b) (p + 1) m)) ∧ Below u.heap.size u w') := fun u h => joinedWays_any n a b (p + 1) m A1 c es u h hle'
      have HX : Hid (∀ u, EdgesIn u u.heap.size A1 es → Calls Try.prog 10 #[.agg #[.int .i64 n, .slice A1 es.length c], .int .i64 b, .int .i64 a, .int .i64 p, .int .i64 m] u fun e w' => e = .returned (.int .i64 (waysI (joiningL n es a b) p m)) ∧ Below u.heap.size u w') := fun u h => by
        have := joinedWays_any n b a p m A1 c es u h hle'
        rw [joiningL_swap] at this; exact this
      have HA : Hid (∀ u, EdgesIn u u.heap.size A1 es → Calls Try.prog 13 #[.agg #[.int .i64 n, .slice A1 es.length c], .int .i64 m] u fun e w' => e = .returned (.int .i64 (allI n es m)) ∧ Below u.heap.size u w') := fun u h => allWays_any n m A1 c es u h hle'
      have wp1 : IntKind.i64.wrap (p + 1) = p + 1 := IntWalk.i64_in _ (by omega)
      generalize waysI (joiningL n es a b) p m = V at *
      generalize waysI (joiningL n es a b) (p + 1) m = M at *
      generalize allI n es m = T at *
      clear hok
      have d0 : ¬ V < 0 := by omega
      have c0 := L1.c0
      have c1 := L1.c1
      go_wp2_with fail
      refine (HI.out _ L1.edges).mono ?_
      rintro e2 w2 ⟨rfl, hb2⟩
      have L2 := L1.step hb2 L1.lt
      clear hb2 L1 c0 c1
      have c0 := L2.c0
      have c1 := L2.c1
      go_wp2_with fail
      refine (HS.out _ L2.edges).mono ?_
      rintro e3 w3 ⟨rfl, hb3⟩
      have L3 := L2.step hb3 L2.lt
      clear hb3 L2 c0 c1
      have c0 := L3.c0
      have c1 := L3.c1
      go_wp2_with fail
      refine (HM.out _ L3.edges).mono ?_
      rintro e4 w4 ⟨rfl, hb4⟩
      have L4 := L3.step hb4 L3.lt
      clear hb4 L3 c0 c1
      have c0 := L4.c0
      have c1 := L4.c1
      by_cases hM : M < 0 <;> by_cases hp : 0 < p
      all_goals
        have e1 : (M < 0 ∨ V ≤ M) := l2
        have e2 : (0 < p ∨ V = 0) := l3
        try (have hV0 : V = 0 := by omega)
        try (have hVM : V ≤ M := by omega)
        clear l2 l3 e1 e2
        try subst hV0
        go_wp2_with fail
        refine (HA.out _ L4.edges).mono ?_
        rintro e5 w5 ⟨rfl, hb5⟩
        have L5 := L4.step hb5 L4.lt
        clear hb5 L4 c0 c1
        have c0 := L5.c0
        have c1 := L5.c1
        go_wp2_with fail
        refine (HX.out _ L5.edges).mono ?_
        rintro e6 w6 ⟨rfl, hb6⟩
        have L6 := L5.step hb6 L5.lt
        go_wp2_with fail
        go_returns
        exact ⟨rfl, HB.out.trans (L6.below.mono s1)⟩
    · have hV : waysI (joiningL n es a b) p m = -1 := by
        by_cases h1 : joinOkB n es a b = true
        · exact waysI_chance (by simpa [h1] using hok)
        · exact joinW_not h1
      rw [hV] at HI HS
      clear hV hok
      have c0 := L1.c0
      have c1 := L1.c1
      go_wp2_with fail
      refine (HI.out _ L1.edges).mono ?_
      rintro e2 w2 ⟨rfl, hb2⟩
      have L2 := L1.step hb2 L1.lt
      clear hb2 L1 c0 c1
      have c0 := L2.c0
      have c1 := L2.c1
      go_wp2_with fail
      refine (HS.out _ L2.edges).mono ?_
      rintro e3 w3 ⟨rfl, hb3⟩
      have L3 := L2.step hb3 L2.lt
      clear hb3 L2 c0 c1
      go_wp2_with fail
      refine (alive_any _).mono ?_
      rintro e4 w4 ⟨rfl, hb4⟩
      have L4 := L3.step hb4 L3.lt
      go_wp2_with fail
      go_returns
      exact ⟨rfl, HB.out.trans (L4.below.mono s1)⟩

namespace fnJoinedWays
open Go.ChangeShapes Go.WideShapes Go.ChangeAt Go.RowKit Go.Deep Go.Joins
set_option linter.unusedVariables false
set_option maxRecDepth 100000 in
theorem lifted (os : Os) (started : os.Started) (H : Type) (enc : TypeId × Value → H) :
    ReturnsInHanded {} Try.checked os 3 .any (Rows.fnJoinedWaysSpec.pre6 enc Try.prog Try.f3 Rows.fnJoinedWaysRow.domain false) (Rows.fnJoinedWaysSpec.post enc Try.prog Try.f3 false true false false) := by
  refine returnsInHanded_of_change (C := Try.checked) own started (by kernel_rfl) Try.func3
    (ChangeSpec.witness6 (enc := enc) (C := Try.checked) false ⟨#[], #[.slice none 0 0], []⟩ 8 (by kernel_rfl) (by kernel_rfl) (by kernel_rfl) (by kernel_rfl)) ?_
  intro W base args ds gs before hval0 hW hcnd _
  have hval : ∀ (j : Nat) t v, Try.f3.params[j]? = some t → args[j]? = some v → Value.okWide Try.prog W .any base t v := hval0
  have hW' := hW
  obtain ⟨p, q, hA0, hV, rfl, hfz, hnd⟩ := hW
  have hA : DataW.TrodAll enc Try.prog W 0 (fun _ => true) true Try.f3.params.toList args.toList ds p := hA0
  rw [Try.params3] at hA hval
  obtain ⟨v0, vs0, d0, ds0, p0, q0, hargs, rfl, rfl, h0, r0⟩ := trodAll_cons hA
  obtain ⟨rfl, rfl, rfl⟩ := trodAll_nil r0
  obtain rfl : args = #[v0] := by cases args; simp_all
  obtain ⟨rfl, rfl⟩ := trodVars_none hV
  have k0 := h0
  have lt0 : ∀ x ∈ p0, x.block < W.heap.size := by obtain ⟨m, hm⟩ := k0; exact DataW.trod_lt m _ _ _ hm
  obtain ⟨A0, c0, bs0, rfl, hb0, hl0⟩ := open_bytes (hval 0 22 v0 rfl rfl) h0
  clear hA0 hval0
  refine (joinedWays_law A0 c0 bs0 W hb0 hl0).mono fun e W' ⟨he, bel⟩ => ?_
  subst he
  exact ⟨_, rfl, _, _, _, [], _, [], hW', trodAll_mk1 (shut_bool Try.underlying4 _), (trodAll_cons_mk (Below.trod laidOut (by kernel_rfl) (of_decide_eq_true (by kernel_rfl)) k0 bel lt0) trodAll_mk0), rfl, bel.frame _, fun h => by cases h⟩

theorem holds : Rows.FnJoinedWaysSaid :=
  OpenClaim.holds_of_wide 3 Try.f3 rfl rfl rfl rfl rfl rfl rfl ⟨rfl, rfl, rfl, rfl, rfl⟩ rfl rfl rfl rfl rfl (by kernel_rfl) Try.func3 (by kernel_rfl)
    (of_decide_eq_true (by kernel_rfl)) (by unfold Func.isWrapper; first | (rw [if_pos (by decide +kernel)]; kernel_rfl) | (rw [if_neg (by decide +kernel)]; exact ⟨rfl, rfl⟩))
    (fun os started H enc _ => lifted os started H enc)
end fnJoinedWays

end Go.Proofs.Ytfflfinhhdhnkab
