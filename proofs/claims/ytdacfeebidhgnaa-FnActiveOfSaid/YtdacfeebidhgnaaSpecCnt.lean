/- BothOf of the program and of the reference; and what they are made of. -/
import Derived.Test.YtdacfeebidhgnaaBothL
import Derived.Test.YtdacfeebidhgnaaRow
import Derived.Test.YtdacfeebidhgnaaImpl2
import Derived.Test.YtdacfeebidhgnaaSpec2
namespace Go.Proofs.Ytdacfeebidhgnaa
open Go.RowKit
set_option maxRecDepth 100000

theorem getD_some {xs : List Int} {k : Nat} (h : k < xs.length) : xs[k]? = some (xs.getD k 0) := by simp [List.getD, h]

def lenOkB (n : Nat) : Bool := decide (1 ≤ n) && decide (n ≤ 30)
theorem bothOk_len (xs ys : List Int) : bothOkB xs ys = (lenOkB xs.length && lenOkB ys.length) := rfl

end Go.Proofs.Ytdacfeebidhgnaa

/- BothOf of the reference; ChoicesOf of the program and of the reference. -/
namespace Go.Proofs.Ytdacfeebidhgnaa
open Go.RowKit
set_option maxRecDepth 100000

theorem OwnI.empty (w : World) {base : Nat} (hb : base ≤ w.heap.size) : OwnI (w.alloc (.cells #[] 3)) base (.slice (some ⟨w.heap.size, 0, none⟩) 0 0) [] :=
  OwnI.box w [] hb (by simp)

end Go.Proofs.Ytdacfeebidhgnaa

/- JoiningCounts, WholeCounts and ForestCounts of the reference. -/
namespace Go.Proofs.Ytdacfeebidhgnaa
open Go.RowKit
set_option maxRecDepth 100000

theorem pow_named {l : Nat} (h : l ≤ 9) : ∃ P : Nat, 2 ^ l = P ∧ 1 ≤ P ∧ P ≤ 512 ∧ wrap64 (2 ^ l) = (P : Int) ∧ IntKind.i64.wrap (2 ^ l) = (P : Int) := by
  have h2 : 2 ^ l ≤ 2 ^ 9 := Nat.pow_le_pow_right (by omega) h
  have h1 : 1 ≤ 2 ^ l := Nat.one_le_two_pow
  have e : (2 : Int) ^ l = ((2 ^ l : Nat) : Int) := by rw [Int.natCast_pow]; rfl
  refine ⟨2 ^ l, rfl, h1, h2, ?_, ?_⟩
  · rw [e]; generalize 2 ^ l = P at *; unfold wrap64; omega
  · rw [e, IntWalk.i64_left]; generalize 2 ^ l = P at *; unfold wrap64; omega

theorem pieces_one {x : Nat} (h : decide (x = 1) = true) : (x : Int) = 1 := by simp at h; omega
theorem pieces_more1 {x : Nat} (h : decide (x = 1) = false) : ((x : Int) == 1) = false := by simp at h; simp; omega

end Go.Proofs.Ytdacfeebidhgnaa
