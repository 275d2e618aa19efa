/- The law FnByStates holds of every code: the program answers as the reference does, and the three roads answer the same. -/
import Derived.Test.YtdacfeebidhgnabBytes
import Derived.Test.YtdacfeebidhgnabDraw11
import Derived.Test.YtdacfeebidhgnabImpl11d
import Derived.Test.YtdacfeebidhgnabImpl11f
namespace Go.Proofs.Ytdacfeebidhgnab
open Go.RowKit
set_option maxRecDepth 100000

set_option maxHeartbeats 8000000 in
theorem byStates_law (A : Option Addr) (cap l : Nat) (w : World) (hb : BytesIn w w.heap.size A l) (hc : l ≤ cap) :
    Calls Try.prog 3 #[.slice A l cap] w fun e w' => e = .returned (.bool true) ∧ Below w.heap.size w w' := by
  by_cases hbig : 1048576 < l
  · go_enter Try.func3, Try.ntmps3
    go_wp2
    go_returns
    exact ⟨rfl, Below.refl _ _⟩
  · have hl : l ≤ 1048576 := by omega
    clear hbig
    go_enter Try.func3, Try.ntmps3
    go_wp2_with fail
    refine (drawByStates_any _ _ _ _ hb hl hc).mono ?_
    rintro e1 w1 ⟨n, A1, c, es, x, y, rfl, own, n1, n7, hle, x1, x2, y1, y2, hb1⟩
    have L1 := ArgNet.start (cap := c) (n := n) 25 own.edges
    have HB := Lib.hid hb1
    have hle' : es.length ≤ 1048576 := by omega
    have hcap := own.cap
    have s1 := hb1.size
    clear own hb hb1
    have HI : Hid (∀ u, EdgesIn u u.heap.size A1 es → Calls Try.prog 16 #[.agg #[.int .i64 n, .slice A1 es.length c], .int .i64 x, .int .i64 y] u fun e w' => e = .returned (.tuple #[.int .i64 (valI n es x y), .bool (roadOkB n es x y)]) ∧ Below u.heap.size u w') := fun u h => byStates_any n x y A1 c es u h hle'
    have HS : Hid (∀ u, EdgesIn u u.heap.size A1 es → Calls Try.prog 17 #[.agg #[.int .i64 n, .slice A1 es.length c], .int .i64 x, .int .i64 y] u fun e w' => e = .returned (.tuple #[.int .i64 (valI n es x y), .bool (roadOkB n es x y)]) ∧ Below u.heap.size u w') := fun u h => specByStates_any n x y A1 c es u h hle'
    have HA : Hid (∀ u, EdgesIn u u.heap.size A1 es → Calls Try.prog 19 #[.agg #[.int .i64 n, .slice A1 es.length c], .int .i64 x, .int .i64 y] u fun e w' => e = .returned (.tuple #[.int .i64 (valI n es x y), .bool (roadOkB n es x y)]) ∧ Below u.heap.size u w') := fun u h => byBases_any n x y A1 c es u h hle'
    have HE : Hid (∀ u, EdgesIn u u.heap.size A1 es → Calls Try.prog 20 #[.agg #[.int .i64 n, .slice A1 es.length c], .int .i64 x, .int .i64 y] u fun e w' => e = .returned (.tuple #[.int .i64 (valI n es x y), .bool (roadOkB n es x y)]) ∧ Below u.heap.size u w') := fun u h => byEdges_any n x y A1 c es u h hle' hcap
    cases hok : roadOkB n es x y with
    | false =>
      rw [hok, road_not hok] at HI HS
      have c0 := L1.c0
      have c1 := L1.c1
      clear HA HE
      go_wp2_with fail
      refine (HI.out _ L1.edges).mono ?_
      rintro e2 w2 ⟨rfl, hb2⟩
      have L2 := L1.step hb2 L1.lt
      clear hb2 L1 c0 c1
      have c0 := L2.c0
      have c1 := L2.c1
      go_wp2_with fail
      refine (HS.out _ L2.edges).mono ?_
      rintro e3 w3 ⟨rfl, hb3⟩
      have L3 := L2.step hb3 L2.lt
      clear hb3 L2 c0 c1
      have c0 := L3.c0
      have c1 := L3.c1
      go_wp2_with fail
      refine (alive_any _).mono ?_
      rintro e4 w4 ⟨rfl, hb4⟩
      have L4 := L3.step hb4 L3.lt
      go_wp2_with fail
      go_returns
      exact ⟨by first | rfl | simp, HB.out.trans (L4.below.mono s1)⟩
    | true =>
      rw [hok] at HI HS HA HE
      generalize valI n es x y = V at *
      have c0 := L1.c0
      have c1 := L1.c1
      clear hok
      go_wp2_with fail
      refine (HI.out _ L1.edges).mono ?_
      rintro e2 w2 ⟨rfl, hb2⟩
      have L2 := L1.step hb2 L1.lt
      clear hb2 L1 c0 c1
      have c0 := L2.c0
      have c1 := L2.c1
      go_wp2_with fail
      refine (HS.out _ L2.edges).mono ?_
      rintro e3 w3 ⟨rfl, hb3⟩
      have L3 := L2.step hb3 L2.lt
      clear hb3 L2 c0 c1
      have c0 := L3.c0
      have c1 := L3.c1
      go_wp2_with fail
      refine (HA.out _ L3.edges).mono ?_
      rintro e4 w4 ⟨rfl, hb4⟩
      have L4 := L3.step hb4 L3.lt
      clear hb4 L3 c0 c1
      have c0 := L4.c0
      have c1 := L4.c1
      go_wp2_with fail
      refine (HE.out _ L4.edges).mono ?_
      rintro e5 w5 ⟨rfl, hb5⟩
      have L5 := L4.step hb5 L4.lt
      clear hb5 L4 c0 c1
      have c0 := L5.c0
      have c1 := L5.c1
      go_wp2_with fail
      go_returns
      exact ⟨by first | rfl | simp, HB.out.trans (L5.below.mono s1)⟩

namespace fnByStates
open Go.ChangeShapes Go.WideShapes Go.ChangeAt Go.RowKit Go.Deep Go.Joins
set_option linter.unusedVariables false
set_option maxRecDepth 100000 in
theorem lifted (os : Os) (started : os.Started) (H : Type) (enc : TypeId × Value → H) :
    ReturnsInHanded {} Try.checked os 3 .any (Rows.fnByStatesSpec.pre6 enc Try.prog Try.f3 Rows.fnByStatesRow.domain false) (Rows.fnByStatesSpec.post enc Try.prog Try.f3 false true false false) := by
  refine returnsInHanded_of_change (C := Try.checked) own started (by kernel_rfl) Try.func3
    (ChangeSpec.witness6 (enc := enc) (C := Try.checked) false ⟨#[], #[.slice none 0 0], []⟩ 8 (by kernel_rfl) (by kernel_rfl) (by kernel_rfl) (by kernel_rfl)) ?_
  intro W base args ds gs before hval0 hW hcnd _
  have hval : ∀ (j : Nat) t v, Try.f3.params[j]? = some t → args[j]? = some v → Value.okWide Try.prog W .any base t v := hval0
  have hW' := hW
  obtain ⟨p, q, hA0, hV, rfl, hfz, hnd⟩ := hW
  have hA : DataW.TrodAll enc Try.prog W 0 (fun _ => true) true Try.f3.params.toList args.toList ds p := hA0
  rw [Try.params3] at hA hval
  obtain ⟨v0, vs0, d0, ds0, p0, q0, hargs, rfl, rfl, h0, r0⟩ := trodAll_cons hA
  obtain ⟨rfl, rfl, rfl⟩ := trodAll_nil r0
  obtain rfl : args = #[v0] := by cases args; simp_all
  obtain ⟨rfl, rfl⟩ := trodVars_none hV
  have k0 := h0
  have lt0 : ∀ x ∈ p0, x.block < W.heap.size := by obtain ⟨m, hm⟩ := k0; exact DataW.trod_lt m _ _ _ hm
  obtain ⟨A0, c0, bs0, rfl, hb0, hl0⟩ := open_bytes (hval 0 22 v0 rfl rfl) h0
  clear hA0 hval0
  refine (byStates_law A0 c0 bs0 W hb0 hl0).mono fun e W' ⟨he, bel⟩ => ?_
  subst he
  exact ⟨_, rfl, _, _, _, [], _, [], hW', trodAll_mk1 (shut_bool Try.underlying4 _), (trodAll_cons_mk (Below.trod laidOut (by kernel_rfl) (of_decide_eq_true (by kernel_rfl)) k0 bel lt0) trodAll_mk0), rfl, bel.frame _, fun h => by cases h⟩

theorem holds : Rows.FnByStatesSaid :=
  OpenClaim.holds_of_wide 3 Try.f3 rfl rfl rfl rfl rfl rfl rfl ⟨rfl, rfl, rfl, rfl, rfl⟩ rfl rfl rfl rfl rfl (by kernel_rfl) Try.func3 (by kernel_rfl)
    (of_decide_eq_true (by kernel_rfl)) (by unfold Func.isWrapper; first | (rw [if_pos (by decide +kernel)]; kernel_rfl) | (rw [if_neg (by decide +kernel)]; exact ⟨rfl, rfl⟩))
    (fun os started H enc _ => lifted os started H enc)
end fnByStates
end Go.Proofs.Ytdacfeebidhgnab
