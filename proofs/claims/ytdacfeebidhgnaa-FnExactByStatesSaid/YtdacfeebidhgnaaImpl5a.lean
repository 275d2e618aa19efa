/- Chances of the program: ChanceOk and countsOk. -/
import Derived.Test.YtdacfeebidhgnaaChance
import Derived.Test.YtdacfeebidhgnaaImplCnt
namespace Go.Proofs.Ytdacfeebidhgnaa
open Go.RowKit
set_option maxRecDepth 100000

def countsB (xs : List Int) : Bool := decide (1 ≤ xs.length ∧ xs.length ≤ 10) && rowB xs
theorem waysB_counts (xs : List Int) (p m : Int) : waysB xs p m = (countsB xs && chanceB p m) := by
  unfold waysB countsB; rw [Bool.and_comm]
end Go.Proofs.Ytdacfeebidhgnaa
