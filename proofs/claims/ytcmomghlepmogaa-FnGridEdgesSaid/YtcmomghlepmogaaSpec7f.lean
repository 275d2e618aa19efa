/- Grids of the reference: PassesOk. -/
import Derived.Test.YtcmomghlepmogaaSpec7e
namespace Go.Proofs.Ytcmomghlepmogaa
open Go.RowKit
set_option maxRecDepth 100000

theorem low_step (k : Nat) (hk : k < 5) : (2 ^ k - 1) ||| 2 ^ k = 2 ^ (k + 1) - 1 := by
  rcases (show k = 0 ∨ k = 1 ∨ k = 2 ∨ k = 3 ∨ k = 4 by omega) with rfl | rfl | rfl | rfl | rfl <;> decide

end Go.Proofs.Ytcmomghlepmogaa
