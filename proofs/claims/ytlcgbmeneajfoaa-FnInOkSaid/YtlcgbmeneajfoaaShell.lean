/- What the laws' arguments are opened to: a net by value; and what every proof of a row shares. -/
import Derived.Test.YtlcgbmeneajfoaaEd
import Derived.Test.YtlcgbmeneajfoaaRows
import Derived.ProofKit
import Derived.OpenShut
import Derived.ShutString
import Derived.ChangeOld
import Derived.Carry
import Derived.Deep.Slices
import Derived.ChangeSame
import Derived.Lib.SmallJoins
namespace Go.Proofs.Ytlcgbmeneajfoaa
open Go.ChangeShapes Go.WideShapes Go.ChangeAt Go.RowKit Go.Deep Go.Joins
set_option linter.unusedVariables false

set_option maxRecDepth 100000

theorem own : ownKnob Try.prog.godebug = none := by kernel_rfl
theorem laidOut : laidOutB Try.prog = true := by kernel_rfl

theorem list_of {α : Type} {P : Nat → α → Prop} : ∀ n : Nat, (∀ i, i < n → ∃ e, P i e) → ∃ es : List α, es.length = n ∧ ∀ k e, es[k]? = some e → P k e
  | 0, _ => ⟨[], rfl, fun k e h => by simp at h⟩
  | n + 1, h => by
    obtain ⟨es, hl, hes⟩ := list_of n fun i hi => h i (by omega)
    obtain ⟨e, he⟩ := h n (by omega)
    refine ⟨es ++ [e], by simp [hl], fun k e' hk => ?_⟩
    rw [List.getElem?_append] at hk
    split at hk
    · exact hes k e' hk
    · next hge =>
      have : k = n := by
        have hk' := (List.getElem?_eq_some_iff.1 hk).1
        simp at hk'
        omega
      subst this
      simp [hl] at hk
      subst hk
      exact he

end Go.Proofs.Ytlcgbmeneajfoaa
