/- The exact law of WaysOf holds: the program answers as the reference does, and leaves its argument alone. -/
import Derived.Test.YtaplmlbpleilfaaSpec5
import Derived.Test.YtaplmlbpleilfaaImpl5
import Derived.Test.YtaplmlbpleilfaaOpenRow
import Derived.Test.YtaplmlbpleilfaaObj
namespace Go.Proofs.Ytaplmlbpleilfaa
open Go.RowKit
set_option maxRecDepth 100000

theorem exWaysOf_walk (A : Option Addr) (c : Nat) (xs : List Int) (p m : Int) (w : World) (hA : IntsIn w w.heap.size A xs) (hl : xs.length ≤ maxLen) (_w0 : (Lit.int .i64 p).wf = true) (_w1 : (Lit.int .i64 m).wf = true) :
    Calls Try.prog 6 #[.slice A xs.length c, .int .i64 p, .int .i64 m] w fun e w' => e = .returned (.bool true) ∧ Below w.heap.size w w' := by
  unfold maxLen at hl
  by_cases hbig : (1048576 : Int) < xs.length
  · go_enter Try.func6, Try.ntmps6
    go_wp2
    go_returns
    exact ⟨rfl, Below.refl _ _⟩
  · have lx : xs.length ≤ 1048576 := by omega
    obtain ⟨z, hz⟩ : ∃ z, waysI xs p m = z := ⟨_, rfl⟩
    have HS : Hid (∀ (A : Option Addr) (c : Nat) (u : World), IntsIn u u.heap.size A xs → Calls Try.prog 19 #[.slice A xs.length c, .int .i64 p, .int .i64 m] u fun e w' => e = .returned (.int .i64 z) ∧ Below u.heap.size u w') := fun A c u h => by rw [← hz]; exact specWays_any p m A c xs u h lx
    have HI : Hid (∀ (A : Option Addr) (c : Nat) (u : World), IntsIn u u.heap.size A xs → Calls Try.prog 18 #[.slice A xs.length c, .int .i64 p, .int .i64 m] u fun e w' => e = .returned (.int .i64 z) ∧ Below u.heap.size u w') := fun A c u h => by rw [← hz]; exact waysOf_any p m A c xs u h lx
    clear hz hl
    have BB := Below.refl w.heap.size w
    go_enter Try.func6, Try.ntmps6
    go_wp2_with fail
    refine (toIntS_any _ _ _ _ hA lx).mono ?_
    rintro e1 w1 ⟨A1, k1, rfl, own1, hb1⟩
    go_wp2_with fail
    refine (HS.out _ _ _ own1.ints).mono ?_
    rintro e2 w2 ⟨rfl, hb2⟩
    have BB2 := hb1.trans (hb2.mono hb1.size)
    clear own1 hb1 hb2 BB
    go_wp2_with fail
    refine (toIntS_any _ _ _ _ ((hA.below BB2 (Nat.le_refl _)).more BB2.size) lx).mono ?_
    rintro e3 w3 ⟨A3, k3, rfl, own3, hb3⟩
    have BB3 := BB2.trans (hb3.mono BB2.size)
    have O3 := RowAt.start own3
    clear own3 hb3 BB2
    go_wp2_with fail
    refine (HI.out _ _ _ O3.ints).mono ?_
    rintro e4 w4 ⟨rfl, hb4⟩
    have BB4 := BB3.trans (hb4.mono BB3.size)
    have O4 := O3.next hb4
    clear O3 hb4 BB3
    go_wp2_with fail
    refine (toIntS_any _ _ _ _ ((hA.below BB4 (Nat.le_refl _)).more BB4.size) lx).mono ?_
    rintro e5 w5 ⟨A5, k5, rfl, own5, hb5⟩
    have BB5 := BB4.trans (hb5.mono BB4.size)
    have O5 := O4.next hb5
    clear O4 hb5 BB4
    go_wp2_with fail
    refine (eqIntS_self _ _ _ _ _ _ _ O5.ints own5.ints rfl lx).mono ?_
    rintro e6 w6 ⟨rfl, hb6⟩
    have BB6 := BB5.trans (hb6.mono BB5.size)
    go_wp2_with fail
    go_returns
    exact ⟨rfl, BB6⟩

namespace fnExactWaysOf
open Go.ChangeShapes Go.WideShapes Go.ChangeAt Go.RowKit Go.Deep Go.Joins
set_option linter.unusedVariables false
set_option maxRecDepth 100000 in
theorem lifted (os : Os) (started : os.Started) (H : Type) (enc : TypeId × Value → H) :
    ReturnsInHanded {} Try.checked os 6 .any (Rows.fnExactWaysOfSpec.pre6 enc Try.prog Try.f6 Rows.fnExactWaysOfRow.domain false) (Rows.fnExactWaysOfSpec.post enc Try.prog Try.f6 false true false false) := by
  refine returnsInHanded_of_change (C := Try.checked) own started (by kernel_rfl) Try.func6
    (ChangeSpec.witness6 (enc := enc) (C := Try.checked) false ⟨#[], #[.slice none 0 0, .int .i64 0, .int .i64 0], []⟩ 8 (by kernel_rfl) (by kernel_rfl) (by kernel_rfl) (by kernel_rfl)) ?_
  intro W base args ds gs before hval0 hW hcnd _
  have hval : ∀ (j : Nat) t v, Try.f6.params[j]? = some t → args[j]? = some v → Value.okWide Try.prog W .any base t v := hval0
  have hW' := hW
  obtain ⟨p, q, hA0, hV, rfl, hfz, hnd⟩ := hW
  have hA : DataW.TrodAll enc Try.prog W 0 (fun _ => true) true Try.f6.params.toList args.toList ds p := hA0
  rw [Try.params6] at hA hval
  obtain ⟨v0, vs0, d0, ds0, p0, q0, hargs, rfl, rfl, h0, r0⟩ := trodAll_cons hA
  obtain ⟨v1, vs1, d1, ds1, p1, q1, rfl, rfl, rfl, h1, r1⟩ := trodAll_cons r0
  obtain ⟨v2, vs2, d2, ds2, p2, q2, rfl, rfl, rfl, h2, r2⟩ := trodAll_cons r1
  obtain ⟨rfl, rfl, rfl⟩ := trodAll_nil r2
  obtain rfl : args = #[v0, v1, v2] := by cases args; simp_all
  obtain ⟨rfl, rfl⟩ := trodVars_none hV
  have k0 := h0
  have lt0 : ∀ x ∈ p0, x.block < W.heap.size := by obtain ⟨m, hm⟩ := k0; exact DataW.trod_lt m _ _ _ hm
  obtain ⟨A0, c0, xs0, rfl, hb0, hl0⟩ := open_row (hval 0 28 v0 rfl rfl) h0
  obtain ⟨a1, rfl, rfl, rfl, w1⟩ := open_int Try.underlying3 (hval 1 3 v1 rfl rfl) h1
  obtain ⟨a2, rfl, rfl, rfl, w2⟩ := open_int Try.underlying3 (hval 2 3 v2 rfl rfl) h2
  clear hA0 hval0
  refine (exWaysOf_walk A0 c0 xs0 a1 a2 W hb0 hl0 w1 w2).mono fun e W' ⟨he, bel⟩ => ?_
  subst he
  exact ⟨_, rfl, _, _, _, [], _, [], hW', trodAll_mk1 (shut_bool Try.underlying4 _), (trodAll_cons_mk (Below.trod laidOut (by kernel_rfl) (of_decide_eq_true (by kernel_rfl)) k0 bel lt0) (trodAll_cons_mk (shut_int Try.underlying3 w1) (trodAll_cons_mk (shut_int Try.underlying3 w2) trodAll_mk0))), rfl, bel.frame _, fun h => by cases h⟩

theorem holds : Rows.FnExactWaysOfSaid :=
  OpenClaim.holds_of_wide 6 Try.f6 rfl rfl rfl rfl rfl rfl rfl ⟨rfl, rfl, rfl, rfl, rfl⟩ rfl rfl rfl rfl rfl (by kernel_rfl) Try.func6 (by kernel_rfl)
    (of_decide_eq_true (by kernel_rfl)) (by unfold Func.isWrapper; first | (rw [if_pos (by decide +kernel)]; kernel_rfl) | (rw [if_neg (by decide +kernel)]; exact ⟨rfl, rfl⟩))
    (fun os started H enc _ => lifted os started H enc)
end fnExactWaysOf

end Go.Proofs.Ytaplmlbpleilfaa
