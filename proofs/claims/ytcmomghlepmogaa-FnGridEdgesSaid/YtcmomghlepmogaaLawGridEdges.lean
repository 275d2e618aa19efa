/- The law FnGridEdges holds of every code: with one column more than rows it is the square of the rows and that of one less, added; and turned, a grid has as many. -/
import Derived.Test.YtcmomghlepmogaaBytes
import Derived.Test.YtcmomghlepmogaaDraw7
import Derived.Test.YtcmomghlepmogaaIs7
namespace Go.Proofs.Ytcmomghlepmogaa
open Go.RowKit
set_option maxRecDepth 100000

set_option maxHeartbeats 4000000 in
theorem gridEdges_law (A : Option Addr) (cap l : Nat) (w : World) (hb : BytesIn w w.heap.size A l) (hc : l ≤ cap) :
    Calls Try.prog 4 #[.slice A l cap] w fun e w' => e = .returned (.bool true) ∧ Below w.heap.size w w' := by
  by_cases hbig : 1048576 < l
  · go_enter Try.func4, Try.ntmps4
    go_wp2
    go_returns
    exact ⟨rfl, Below.refl _ _⟩
  · have hl : l ≤ 1048576 := by omega
    clear hbig
    go_enter Try.func4, Try.ntmps4
    go_wp2_with fail
    refine (drawGridEdges_any _ _ _ _ hb hl hc).mono ?_
    rintro e1 w1 ⟨c, r, rfl, k1, k2, k3, k4, BB1⟩
    clear hb hl hc
    cases hB : gridOkB c r with
    | false =>
      have HV : Hid (gridEI c r = -1) := if_neg (by rw [hB]; simp)
      clear hB
      go_wp2_with fail
      refine (gridEdges_is _ _ _ HV.out _).mono ?_
      rintro e2 w2 ⟨rfl, hb2⟩
      have BB2 := BB1.trans (hb2.mono BB1.size)
      clear hb2 BB1
      go_wp2_with fail
      refine (sGridEdges_is _ _ _ HV.out _).mono ?_
      rintro e3 w3 ⟨rfl, hb3⟩
      have BB3 := BB2.trans (hb3.mono BB2.size)
      clear hb3 BB2
      go_wp2_with fail
      refine (alive_any _).mono ?_
      rintro e4 w4 ⟨rfl, hb4⟩
      have BB4 := BB3.trans (hb4.mono BB3.size)
      clear hb4 BB3
      go_wp2_with fail
      go_returns
      exact ⟨by first | rfl | simp, BB4⟩
    | true =>
      have hBB := gridOkB_iff.1 hB
      clear hB k1 k2 k3 k4
      rcases (show c = 2 ∨ c = 3 ∨ c = 4 by omega) with rfl | rfl | rfl <;> rcases (show r = 1 ∨ r = 2 ∨ r = 3 by omega) with rfl | rfl | rfl <;> clear hBB
      · have HV : Hid (gridEI 2 1 = 1) := by rw [Hid]; decide
        have HT : Hid (gridEI 2 1 = 1) := by rw [Hid]; decide
        go_wp2_with fail
        refine (gridEdges_is _ _ _ HV.out _).mono ?_
        rintro e2 w2 ⟨rfl, hb2⟩
        have BB2 := BB1.trans (hb2.mono BB1.size)
        clear hb2 BB1
        go_wp2_with fail
        refine (sGridEdges_is _ _ _ HV.out _).mono ?_
        rintro e3 w3 ⟨rfl, hb3⟩
        have BB3 := BB2.trans (hb3.mono BB2.size)
        clear hb3 BB2
        go_wp2_with fail
        refine (gridEdges_is _ _ _ HT.out _).mono ?_
        rintro e4 w4 ⟨rfl, hb4⟩
        have BB4 := BB3.trans (hb4.mono BB3.size)
        clear hb4 BB3
        go_wp2_with fail
        go_returns
        exact ⟨by first | rfl | simp, BB4⟩
      · have HV : Hid (gridEI 2 2 = 2) := by rw [Hid]; decide
        have HT : Hid (gridEI 3 1 = 2) := by rw [Hid]; decide
        go_wp2_with fail
        refine (gridEdges_is _ _ _ HV.out _).mono ?_
        rintro e2 w2 ⟨rfl, hb2⟩
        have BB2 := BB1.trans (hb2.mono BB1.size)
        clear hb2 BB1
        go_wp2_with fail
        refine (sGridEdges_is _ _ _ HV.out _).mono ?_
        rintro e3 w3 ⟨rfl, hb3⟩
        have BB3 := BB2.trans (hb3.mono BB2.size)
        clear hb3 BB2
        go_wp2_with fail
        refine (gridEdges_is _ _ _ HT.out _).mono ?_
        rintro e4 w4 ⟨rfl, hb4⟩
        have BB4 := BB3.trans (hb4.mono BB3.size)
        clear hb4 BB3
        go_wp2_with fail
        go_returns
        exact ⟨by first | rfl | simp, BB4⟩
      · have HV : Hid (gridEI 2 3 = 3) := by rw [Hid]; decide
        have HT : Hid (gridEI 4 1 = 3) := by rw [Hid]; decide
        go_wp2_with fail
        refine (gridEdges_is _ _ _ HV.out _).mono ?_
        rintro e2 w2 ⟨rfl, hb2⟩
        have BB2 := BB1.trans (hb2.mono BB1.size)
        clear hb2 BB1
        go_wp2_with fail
        refine (sGridEdges_is _ _ _ HV.out _).mono ?_
        rintro e3 w3 ⟨rfl, hb3⟩
        have BB3 := BB2.trans (hb3.mono BB2.size)
        clear hb3 BB2
        go_wp2_with fail
        refine (gridEdges_is _ _ _ HT.out _).mono ?_
        rintro e4 w4 ⟨rfl, hb4⟩
        have BB4 := BB3.trans (hb4.mono BB3.size)
        clear hb4 BB3
        go_wp2_with fail
        go_returns
        exact ⟨by first | rfl | simp, BB4⟩
      · have HV : Hid (gridEI 3 1 = 2) := by rw [Hid]; decide
        have HT : Hid (gridEI 2 2 = 2) := by rw [Hid]; decide
        go_wp2_with fail
        refine (gridEdges_is _ _ _ HV.out _).mono ?_
        rintro e2 w2 ⟨rfl, hb2⟩
        have BB2 := BB1.trans (hb2.mono BB1.size)
        clear hb2 BB1
        go_wp2_with fail
        refine (sGridEdges_is _ _ _ HV.out _).mono ?_
        rintro e3 w3 ⟨rfl, hb3⟩
        have BB3 := BB2.trans (hb3.mono BB2.size)
        clear hb3 BB2
        go_wp2_with fail
        refine (gridEdges_is _ _ _ HT.out _).mono ?_
        rintro e4 w4 ⟨rfl, hb4⟩
        have BB4 := BB3.trans (hb4.mono BB3.size)
        clear hb4 BB3
        go_wp2_with fail
        go_returns
        exact ⟨by first | rfl | simp, BB4⟩
      · have HV : Hid (gridEI 3 2 = 5) := by rw [Hid]; decide
        have HT : Hid (gridEI 3 2 = 5) := by rw [Hid]; decide
        go_wp2_with fail
        refine (gridEdges_is _ _ _ HV.out _).mono ?_
        rintro e2 w2 ⟨rfl, hb2⟩
        have BB2 := BB1.trans (hb2.mono BB1.size)
        clear hb2 BB1
        go_wp2_with fail
        refine (sGridEdges_is _ _ _ HV.out _).mono ?_
        rintro e3 w3 ⟨rfl, hb3⟩
        have BB3 := BB2.trans (hb3.mono BB2.size)
        clear hb3 BB2
        go_wp2_with fail
        refine (gridEdges_is _ _ _ HT.out _).mono ?_
        rintro e4 w4 ⟨rfl, hb4⟩
        have BB4 := BB3.trans (hb4.mono BB3.size)
        clear hb4 BB3
        go_wp2_with fail
        go_returns
        exact ⟨by first | rfl | simp, BB4⟩
      · have HV : Hid (gridEI 3 3 = 8) := by rw [Hid]; decide
        have HT : Hid (gridEI 4 2 = 8) := by rw [Hid]; decide
        go_wp2_with fail
        refine (gridEdges_is _ _ _ HV.out _).mono ?_
        rintro e2 w2 ⟨rfl, hb2⟩
        have BB2 := BB1.trans (hb2.mono BB1.size)
        clear hb2 BB1
        go_wp2_with fail
        refine (sGridEdges_is _ _ _ HV.out _).mono ?_
        rintro e3 w3 ⟨rfl, hb3⟩
        have BB3 := BB2.trans (hb3.mono BB2.size)
        clear hb3 BB2
        go_wp2_with fail
        refine (gridEdges_is _ _ _ HT.out _).mono ?_
        rintro e4 w4 ⟨rfl, hb4⟩
        have BB4 := BB3.trans (hb4.mono BB3.size)
        clear hb4 BB3
        go_wp2_with fail
        go_returns
        exact ⟨by first | rfl | simp, BB4⟩
      · have HV : Hid (gridEI 4 1 = 3) := by rw [Hid]; decide
        have HT : Hid (gridEI 2 3 = 3) := by rw [Hid]; decide
        go_wp2_with fail
        refine (gridEdges_is _ _ _ HV.out _).mono ?_
        rintro e2 w2 ⟨rfl, hb2⟩
        have BB2 := BB1.trans (hb2.mono BB1.size)
        clear hb2 BB1
        go_wp2_with fail
        refine (sGridEdges_is _ _ _ HV.out _).mono ?_
        rintro e3 w3 ⟨rfl, hb3⟩
        have BB3 := BB2.trans (hb3.mono BB2.size)
        clear hb3 BB2
        go_wp2_with fail
        refine (gridEdges_is _ _ _ HT.out _).mono ?_
        rintro e4 w4 ⟨rfl, hb4⟩
        have BB4 := BB3.trans (hb4.mono BB3.size)
        clear hb4 BB3
        go_wp2_with fail
        go_returns
        exact ⟨by first | rfl | simp, BB4⟩
      · have HV : Hid (gridEI 4 2 = 8) := by rw [Hid]; decide
        have HT : Hid (gridEI 3 3 = 8) := by rw [Hid]; decide
        go_wp2_with fail
        refine (gridEdges_is _ _ _ HV.out _).mono ?_
        rintro e2 w2 ⟨rfl, hb2⟩
        have BB2 := BB1.trans (hb2.mono BB1.size)
        clear hb2 BB1
        go_wp2_with fail
        refine (sGridEdges_is _ _ _ HV.out _).mono ?_
        rintro e3 w3 ⟨rfl, hb3⟩
        have BB3 := BB2.trans (hb3.mono BB2.size)
        clear hb3 BB2
        go_wp2_with fail
        refine (gridEdges_is _ _ _ HT.out _).mono ?_
        rintro e4 w4 ⟨rfl, hb4⟩
        have BB4 := BB3.trans (hb4.mono BB3.size)
        clear hb4 BB3
        go_wp2_with fail
        go_returns
        exact ⟨by first | rfl | simp, BB4⟩
      · have HV : Hid (gridEI 4 3 = 13) := by rw [Hid]; decide
        have HT : Hid (gridEI 4 3 = 13) := by rw [Hid]; decide
        go_wp2_with fail
        refine (gridEdges_is _ _ _ HV.out _).mono ?_
        rintro e2 w2 ⟨rfl, hb2⟩
        have BB2 := BB1.trans (hb2.mono BB1.size)
        clear hb2 BB1
        go_wp2_with fail
        refine (sGridEdges_is _ _ _ HV.out _).mono ?_
        rintro e3 w3 ⟨rfl, hb3⟩
        have BB3 := BB2.trans (hb3.mono BB2.size)
        clear hb3 BB2
        go_wp2_with fail
        refine (gridEdges_is _ _ _ HT.out _).mono ?_
        rintro e4 w4 ⟨rfl, hb4⟩
        have BB4 := BB3.trans (hb4.mono BB3.size)
        clear hb4 BB3
        go_wp2_with fail
        go_returns
        exact ⟨by first | rfl | simp, BB4⟩

namespace fnGridEdges
open Go.ChangeShapes Go.WideShapes Go.ChangeAt Go.RowKit Go.Deep Go.Joins
set_option linter.unusedVariables false
set_option maxRecDepth 100000 in
theorem lifted (os : Os) (started : os.Started) (H : Type) (enc : TypeId × Value → H) :
    ReturnsInHanded {} Try.checked os 4 .any (Rows.fnGridEdgesSpec.pre6 enc Try.prog Try.f4 Rows.fnGridEdgesRow.domain false) (Rows.fnGridEdgesSpec.post enc Try.prog Try.f4 false true false false) := by
  refine returnsInHanded_of_change (C := Try.checked) own started (by kernel_rfl) Try.func4
    (ChangeSpec.witness6 (enc := enc) (C := Try.checked) false ⟨#[], #[.slice none 0 0], []⟩ 8 (by kernel_rfl) (by kernel_rfl) (by kernel_rfl) (by kernel_rfl)) ?_
  intro W base args ds gs before hval0 hW hcnd _
  have hval : ∀ (j : Nat) t v, Try.f4.params[j]? = some t → args[j]? = some v → Value.okWide Try.prog W .any base t v := hval0
  have hW' := hW
  obtain ⟨p, q, hA0, hV, rfl, hfz, hnd⟩ := hW
  have hA : DataW.TrodAll enc Try.prog W 0 (fun _ => true) true Try.f4.params.toList args.toList ds p := hA0
  rw [Try.params4] at hA hval
  obtain ⟨v0, vs0, d0, ds0, p0, q0, hargs, rfl, rfl, h0, r0⟩ := trodAll_cons hA
  obtain ⟨rfl, rfl, rfl⟩ := trodAll_nil r0
  obtain rfl : args = #[v0] := by cases args; simp_all
  obtain ⟨rfl, rfl⟩ := trodVars_none hV
  have k0 := h0
  have lt0 : ∀ x ∈ p0, x.block < W.heap.size := by obtain ⟨m, hm⟩ := k0; exact DataW.trod_lt m _ _ _ hm
  obtain ⟨A0, c0, bs0, rfl, hb0, hl0⟩ := open_bytes (hval 0 22 v0 rfl rfl) h0
  clear hA0 hval0
  refine (gridEdges_law A0 c0 bs0 W hb0 hl0).mono fun e W' ⟨he, bel⟩ => ?_
  subst he
  exact ⟨_, rfl, _, _, _, [], _, [], hW', trodAll_mk1 (shut_bool Try.underlying4 _), (trodAll_cons_mk (Below.trod laidOut (by kernel_rfl) (of_decide_eq_true (by kernel_rfl)) k0 bel lt0) trodAll_mk0), rfl, bel.frame _, fun h => by cases h⟩

theorem holds : Rows.FnGridEdgesSaid :=
  OpenClaim.holds_of_wide 4 Try.f4 rfl rfl rfl rfl rfl rfl rfl ⟨rfl, rfl, rfl, rfl, rfl⟩ rfl rfl rfl rfl rfl (by kernel_rfl) Try.func4 (by kernel_rfl)
    (of_decide_eq_true (by kernel_rfl)) (by unfold Func.isWrapper; first | (rw [if_pos (by decide +kernel)]; kernel_rfl) | (rw [if_neg (by decide +kernel)]; exact ⟨rfl, rfl⟩))
    (fun os started H enc _ => lifted os started H enc)
end fnGridEdges

end Go.Proofs.Ytcmomghlepmogaa
