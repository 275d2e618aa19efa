/- The law FnBoardOk holds of every code: one cell is a board, and the greatest one; and a board with a column fewer. -/
import Derived.Test.YtcmomghlepmogabBytes
import Derived.Test.YtcmomghlepmogabDraw7
import Derived.Test.YtcmomghlepmogabIs7
namespace Go.Proofs.Ytcmomghlepmogab
open Go.RowKit
set_option maxRecDepth 100000

set_option maxHeartbeats 4000000 in
theorem boardOk_law (A : Option Addr) (cap l : Nat) (w : World) (hb : BytesIn w w.heap.size A l) (hc : l ≤ cap) :
    Calls Try.prog 3 #[.slice A l cap] w fun e w' => e = .returned (.bool true) ∧ Below w.heap.size w w' := by
  by_cases hbig : 1048576 < l
  · go_enter Try.func3, Try.ntmps3
    go_wp2
    go_returns
    exact ⟨rfl, Below.refl _ _⟩
  · have hl : l ≤ 1048576 := by omega
    clear hbig
    go_enter Try.func3, Try.ntmps3
    go_wp2_with fail
    refine (drawBoardOk_any _ _ _ _ hb hl hc).mono ?_
    rintro e1 w1 ⟨c, r, rfl, k1, k2, k3, k4, BB1⟩
    clear hb hl hc
    have HA : Hid (boardB 1 1 = true) := by rw [Hid]; decide
    have HM : Hid (boardB 4 3 = true) := by rw [Hid]; decide
    have HN : Hid (boardB 0 1 = false) := by rw [Hid]; decide
    cases hB : boardB c r with
    | false =>
      have HB := Lib.hid hB
      clear hB
      go_wp2_with fail
      refine (boardOk_is _ _ _ HB.out _).mono ?_
      rintro e2 w2 ⟨rfl, hb2⟩
      have BB2 := BB1.trans (hb2.mono BB1.size)
      clear hb2 BB1
      go_wp2_with fail
      refine (sBoardOk_is _ _ _ HB.out _).mono ?_
      rintro e3 w3 ⟨rfl, hb3⟩
      have BB3 := BB2.trans (hb3.mono BB2.size)
      clear hb3 BB2
      go_wp2_with fail
      refine (boardOk_is _ _ _ HA.out _).mono ?_
      rintro e4 w4 ⟨rfl, hb4⟩
      have BB4 := BB3.trans (hb4.mono BB3.size)
      clear hb4 BB3
      go_wp2_with fail
      refine (boardOk_is _ _ _ HM.out _).mono ?_
      rintro e5 w5 ⟨rfl, hb5⟩
      have BB5 := BB4.trans (hb5.mono BB4.size)
      clear hb5 BB4
      go_wp2_with fail
      refine (boardOk_is _ _ _ HN.out _).mono ?_
      rintro e6 w6 ⟨rfl, hb6⟩
      have BB6 := BB5.trans (hb6.mono BB5.size)
      clear hb6 BB5
      go_wp2_with fail
      refine (alive_any _).mono ?_
      rintro e7 w7 ⟨rfl, hb7⟩
      have BB7 := BB6.trans (hb7.mono BB6.size)
      clear hb7 BB6
      go_wp2_with fail
      go_returns
      exact ⟨by first | rfl | simp, BB7⟩
    | true =>
      have HB := Lib.hid hB
      have hBB := boardB_iff.1 hB
      have wv : IntKind.i64.wrap (c - 1) = c - 1 := IntWalk.i64_in _ (by omega)
      by_cases hv : c < 2
      · obtain rfl : c = 1 := by omega
        clear hB hBB hv
        go_wp2_with fail
        refine (boardOk_is _ _ _ HB.out _).mono ?_
        rintro e2 w2 ⟨rfl, hb2⟩
        have BB2 := BB1.trans (hb2.mono BB1.size)
        clear hb2 BB1
        go_wp2_with fail
        refine (sBoardOk_is _ _ _ HB.out _).mono ?_
        rintro e3 w3 ⟨rfl, hb3⟩
        have BB3 := BB2.trans (hb3.mono BB2.size)
        clear hb3 BB2
        go_wp2_with fail
        refine (boardOk_is _ _ _ HA.out _).mono ?_
        rintro e4 w4 ⟨rfl, hb4⟩
        have BB4 := BB3.trans (hb4.mono BB3.size)
        clear hb4 BB3
        go_wp2_with fail
        refine (boardOk_is _ _ _ HM.out _).mono ?_
        rintro e5 w5 ⟨rfl, hb5⟩
        have BB5 := BB4.trans (hb5.mono BB4.size)
        clear hb5 BB4
        go_wp2_with fail
        refine (boardOk_is _ _ _ HN.out _).mono ?_
        rintro e6 w6 ⟨rfl, hb6⟩
        have BB6 := BB5.trans (hb6.mono BB5.size)
        clear hb6 BB5
        go_wp2_with fail
        refine (alive_any _).mono ?_
        rintro e7 w7 ⟨rfl, hb7⟩
        have BB7 := BB6.trans (hb7.mono BB6.size)
        clear hb7 BB6
        go_wp2_with fail
        go_returns
        exact ⟨by first | rfl | simp, BB7⟩
      · have HL : Hid (boardB (c - 1) r = true) := boardB_iff.2 (by omega)
        have hne : (c == 1) = false := by rw [beq_eq_false_iff_ne]; omega
        have hne2 : ¬ c = 1 := by omega
        clear hB hBB
        go_wp2_with fail
        refine (boardOk_is _ _ _ HB.out _).mono ?_
        rintro e2 w2 ⟨rfl, hb2⟩
        have BB2 := BB1.trans (hb2.mono BB1.size)
        clear hb2 BB1
        go_wp2_with fail
        refine (sBoardOk_is _ _ _ HB.out _).mono ?_
        rintro e3 w3 ⟨rfl, hb3⟩
        have BB3 := BB2.trans (hb3.mono BB2.size)
        clear hb3 BB2
        go_wp2_with fail
        refine (boardOk_is _ _ _ HA.out _).mono ?_
        rintro e4 w4 ⟨rfl, hb4⟩
        have BB4 := BB3.trans (hb4.mono BB3.size)
        clear hb4 BB3
        go_wp2_with fail
        refine (boardOk_is _ _ _ HM.out _).mono ?_
        rintro e5 w5 ⟨rfl, hb5⟩
        have BB5 := BB4.trans (hb5.mono BB4.size)
        clear hb5 BB4
        go_wp2_with fail
        refine (boardOk_is _ _ _ HL.out _).mono ?_
        rintro e6 w6 ⟨rfl, hb6⟩
        have BB6 := BB5.trans (hb6.mono BB5.size)
        clear hb6 BB5
        go_wp2_with fail
        refine (boardOk_is _ _ _ HN.out _).mono ?_
        rintro e7 w7 ⟨rfl, hb7⟩
        have BB7 := BB6.trans (hb7.mono BB6.size)
        clear hb7 BB6
        go_wp2_with fail
        refine (alive_any _).mono ?_
        rintro e8 w8 ⟨rfl, hb8⟩
        have BB8 := BB7.trans (hb8.mono BB7.size)
        clear hb8 BB7
        go_wp2_with fail
        go_returns
        exact ⟨by first | rfl | simp, BB8⟩

namespace fnBoardOk
open Go.ChangeShapes Go.WideShapes Go.ChangeAt Go.RowKit Go.Deep Go.Joins
set_option linter.unusedVariables false
set_option maxRecDepth 100000 in
theorem lifted (os : Os) (started : os.Started) (H : Type) (enc : TypeId × Value → H) :
    ReturnsInHanded {} Try.checked os 3 .any (Rows.fnBoardOkSpec.pre6 enc Try.prog Try.f3 Rows.fnBoardOkRow.domain false) (Rows.fnBoardOkSpec.post enc Try.prog Try.f3 false true false false) := by
  refine returnsInHanded_of_change (C := Try.checked) own started (by kernel_rfl) Try.func3
    (ChangeSpec.witness6 (enc := enc) (C := Try.checked) false ⟨#[], #[.slice none 0 0], []⟩ 8 (by kernel_rfl) (by kernel_rfl) (by kernel_rfl) (by kernel_rfl)) ?_
  intro W base args ds gs before hval0 hW hcnd _
  have hval : ∀ (j : Nat) t v, Try.f3.params[j]? = some t → args[j]? = some v → Value.okWide Try.prog W .any base t v := hval0
  have hW' := hW
  obtain ⟨p, q, hA0, hV, rfl, hfz, hnd⟩ := hW
  have hA : DataW.TrodAll enc Try.prog W 0 (fun _ => true) true Try.f3.params.toList args.toList ds p := hA0
  rw [Try.params3] at hA hval
  obtain ⟨v0, vs0, d0, ds0, p0, q0, hargs, rfl, rfl, h0, r0⟩ := trodAll_cons hA
  obtain ⟨rfl, rfl, rfl⟩ := trodAll_nil r0
  obtain rfl : args = #[v0] := by cases args; simp_all
  obtain ⟨rfl, rfl⟩ := trodVars_none hV
  have k0 := h0
  have lt0 : ∀ x ∈ p0, x.block < W.heap.size := by obtain ⟨m, hm⟩ := k0; exact DataW.trod_lt m _ _ _ hm
  obtain ⟨A0, c0, bs0, rfl, hb0, hl0⟩ := open_bytes (hval 0 22 v0 rfl rfl) h0
  clear hA0 hval0
  refine (boardOk_law A0 c0 bs0 W hb0 hl0).mono fun e W' ⟨he, bel⟩ => ?_
  subst he
  exact ⟨_, rfl, _, _, _, [], _, [], hW', trodAll_mk1 (shut_bool Try.underlying4 _), (trodAll_cons_mk (Below.trod laidOut (by kernel_rfl) (of_decide_eq_true (by kernel_rfl)) k0 bel lt0) trodAll_mk0), rfl, bel.frame _, fun h => by cases h⟩

theorem holds : Rows.FnBoardOkSaid :=
  OpenClaim.holds_of_wide 3 Try.f3 rfl rfl rfl rfl rfl rfl rfl ⟨rfl, rfl, rfl, rfl, rfl⟩ rfl rfl rfl rfl rfl (by kernel_rfl) Try.func3 (by kernel_rfl)
    (of_decide_eq_true (by kernel_rfl)) (by unfold Func.isWrapper; first | (rw [if_pos (by decide +kernel)]; kernel_rfl) | (rw [if_neg (by decide +kernel)]; exact ⟨rfl, rfl⟩))
    (fun os started H enc _ => lifted os started H enc)
end fnBoardOk

end Go.Proofs.Ytcmomghlepmogab
