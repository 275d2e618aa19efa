/- The law FnChanceOk holds of every code: the chance of all less the parts is one exactly if it is; 0 of 1 and all of MaxParts are ones; 0 of 0 is none. -/
import Derived.Test.YtaplmlbpleilfaaBytes
import Derived.Test.YtaplmlbpleilfaaDraw5
import Derived.Test.YtaplmlbpleilfaaSpec5
import Derived.Test.YtaplmlbpleilfaaImpl5
namespace Go.Proofs.Ytaplmlbpleilfaa
open Go.RowKit
set_option maxRecDepth 100000

theorem chanceOk_law (A : Option Addr) (cap l : Nat) (w : World) (hb : BytesIn w w.heap.size A l) (hc : l ≤ cap) :
    Calls Try.prog 3 #[.slice A l cap] w fun e w' => e = .returned (.bool true) ∧ Below w.heap.size w w' := by
  by_cases hbig : 1048576 < l
  · go_enter Try.func3, Try.ntmps3
    go_wp2
    go_returns
    exact ⟨rfl, Below.refl _ _⟩
  · have hl : l ≤ 1048576 := by omega
    clear hbig
    have HA : Hid (∀ u, Calls Try.prog 14 #[.int .i64 0, .int .i64 1] u fun e w' => e = .returned (.bool true) ∧ u = w') := fun u => chance_is 0 1 true (by decide) u
    have HB : Hid (∀ u, Calls Try.prog 14 #[.int .i64 5, .int .i64 5] u fun e w' => e = .returned (.bool true) ∧ u = w') := fun u => chance_is 5 5 true (by decide) u
    have HC : Hid (∀ u, Calls Try.prog 14 #[.int .i64 0, .int .i64 0] u fun e w' => e = .returned (.bool false) ∧ u = w') := fun u => chance_is 0 0 false (by decide) u
    go_enter Try.func3, Try.ntmps3
    go_wp2_with fail
    refine (drawChanceOk_any _ _ _ _ hb hl hc).mono ?_
    rintro e1 w1 ⟨p, m, rfl, p0, p1, m0, m1, BB1⟩
    have wmp : IntKind.i64.wrap (m - p) = m - p := IntWalk.i64_in _ (by omega)
    cases hch : chanceB p m
    all_goals
      have HR := Lib.hid (chanceB_rest p m)
      have HP := Lib.hid hch
      rw [hch] at HR
      clear hch
      go_wp2_with fail
      refine (chance_is _ _ _ HP.out _).mono ?_
      rintro e2 w2 ⟨rfl, rfl⟩
      go_wp2_with fail
      refine (specChance_is _ _ _ HP.out _).mono ?_
      rintro e3 w3 ⟨rfl, rfl⟩
      go_wp2_with fail
      refine (chance_is _ _ _ HR.out _).mono ?_
      rintro e4 w4 ⟨rfl, rfl⟩
      go_wp2_with fail
      refine (HA.out _).mono ?_
      rintro e5 w5 ⟨rfl, rfl⟩
      go_wp2_with fail
      refine (HB.out _).mono ?_
      rintro e6 w6 ⟨rfl, rfl⟩
      go_wp2_with fail
      refine (HC.out _).mono ?_
      rintro e7 w7 ⟨rfl, rfl⟩
      go_wp2_with fail
      refine (alive_any _).mono ?_
      rintro e8 w8 ⟨rfl, hb8⟩
      have BB8 := BB1.trans (hb8.mono BB1.size)
      go_wp2_with fail
      go_returns
      exact ⟨rfl, BB8⟩

namespace fnChanceOk
open Go.ChangeShapes Go.WideShapes Go.ChangeAt Go.RowKit Go.Deep Go.Joins
set_option linter.unusedVariables false
set_option maxRecDepth 100000 in
theorem lifted (os : Os) (started : os.Started) (H : Type) (enc : TypeId × Value → H) :
    ReturnsInHanded {} Try.checked os 3 .any (Rows.fnChanceOkSpec.pre6 enc Try.prog Try.f3 Rows.fnChanceOkRow.domain false) (Rows.fnChanceOkSpec.post enc Try.prog Try.f3 false true false false) := by
  refine returnsInHanded_of_change (C := Try.checked) own started (by kernel_rfl) Try.func3
    (ChangeSpec.witness6 (enc := enc) (C := Try.checked) false ⟨#[], #[.slice none 0 0], []⟩ 8 (by kernel_rfl) (by kernel_rfl) (by kernel_rfl) (by kernel_rfl)) ?_
  intro W base args ds gs before hval0 hW hcnd _
  have hval : ∀ (j : Nat) t v, Try.f3.params[j]? = some t → args[j]? = some v → Value.okWide Try.prog W .any base t v := hval0
  have hW' := hW
  obtain ⟨p, q, hA0, hV, rfl, hfz, hnd⟩ := hW
  have hA : DataW.TrodAll enc Try.prog W 0 (fun _ => true) true Try.f3.params.toList args.toList ds p := hA0
  rw [Try.params3] at hA hval
  obtain ⟨v0, vs0, d0, ds0, p0, q0, hargs, rfl, rfl, h0, r0⟩ := trodAll_cons hA
  obtain ⟨rfl, rfl, rfl⟩ := trodAll_nil r0
  obtain rfl : args = #[v0] := by cases args; simp_all
  obtain ⟨rfl, rfl⟩ := trodVars_none hV
  have k0 := h0
  have lt0 : ∀ x ∈ p0, x.block < W.heap.size := by obtain ⟨m, hm⟩ := k0; exact DataW.trod_lt m _ _ _ hm
  obtain ⟨A0, c0, bs0, rfl, hb0, hl0⟩ := open_bytes (hval 0 22 v0 rfl rfl) h0
  clear hA0 hval0
  refine (chanceOk_law A0 c0 bs0 W hb0 hl0).mono fun e W' ⟨he, bel⟩ => ?_
  subst he
  exact ⟨_, rfl, _, _, _, [], _, [], hW', trodAll_mk1 (shut_bool Try.underlying4 _), (trodAll_cons_mk (Below.trod laidOut (by kernel_rfl) (of_decide_eq_true (by kernel_rfl)) k0 bel lt0) trodAll_mk0), rfl, bel.frame _, fun h => by cases h⟩

theorem holds : Rows.FnChanceOkSaid :=
  OpenClaim.holds_of_wide 3 Try.f3 rfl rfl rfl rfl rfl rfl rfl ⟨rfl, rfl, rfl, rfl, rfl⟩ rfl rfl rfl rfl rfl (by kernel_rfl) Try.func3 (by kernel_rfl)
    (of_decide_eq_true (by kernel_rfl)) (by unfold Func.isWrapper; first | (rw [if_pos (by decide +kernel)]; kernel_rfl) | (rw [if_neg (by decide +kernel)]; exact ⟨rfl, rfl⟩))
    (fun os started H enc _ => lifted os started H enc)
end fnChanceOk

end Go.Proofs.Ytaplmlbpleilfaa
