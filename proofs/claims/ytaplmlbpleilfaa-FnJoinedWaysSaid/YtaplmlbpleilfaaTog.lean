/- BothOf of the program and of the reference; and what they are made of. -/
import Derived.Test.YtaplmlbpleilfaaBothL
import Derived.Test.YtaplmlbpleilfaaRowEq
namespace Go.Proofs.Ytaplmlbpleilfaa
open Go.RowKit
set_option maxRecDepth 100000

theorem getD_some {xs : List Int} {k : Nat} (h : k < xs.length) : xs[k]? = some (xs.getD k 0) := by simp [List.getD, h]

def lenOkB (n : Nat) : Bool := decide (1 ≤ n) && decide (n ≤ 30)
theorem bothOk_len (xs ys : List Int) : bothOkB xs ys = (lenOkB xs.length && lenOkB ys.length) := rfl

end Go.Proofs.Ytaplmlbpleilfaa
