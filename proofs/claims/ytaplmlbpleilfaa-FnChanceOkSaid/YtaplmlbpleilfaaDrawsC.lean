/- The draws of a net with a state, a node or a place. -/
import Derived.Test.YtaplmlbpleilfaaDraws
namespace Go.Proofs.Ytaplmlbpleilfaa
open Go.RowKit
set_option maxRecDepth 100000

theorem times_bit (x P : Int) (h0 : 0 ≤ x) (h1 : x < 2) (p0 : 1 ≤ P) (p1 : P ≤ 512) : ∃ M : Int, IntKind.i64.wrap (x * P) = M ∧ 0 ≤ M ∧ M ≤ 512 := by
  have : x = 0 ∨ x = 1 := by omega
  rcases this with rfl | rfl
  · exact ⟨0, by rw [Int.zero_mul]; exact IntWalk.i64_in _ (by omega), by omega, by omega⟩
  · exact ⟨P, by rw [Int.one_mul]; exact IntWalk.i64_in _ (by omega), by omega, by omega⟩

end Go.Proofs.Ytaplmlbpleilfaa
