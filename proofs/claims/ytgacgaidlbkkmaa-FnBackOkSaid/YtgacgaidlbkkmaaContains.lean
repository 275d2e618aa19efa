/- slices.ContainsFunc of integers. -/
import Derived.Test.YtgacgaidlbkkmaaRowEq
namespace Go.Proofs.Ytgacgaidlbkkmaa
open Go.RowKit
set_option maxRecDepth 100000

theorem any_take_moreW {q : Int → Bool} {xs : List Int} {k : Nat} {x : Int} (h : xs[k]? = some x) : (xs.take (k + 1)).any q = ((xs.take k).any q || q x) := by
  obtain ⟨hk, rfl⟩ := List.getElem?_eq_some_iff.1 h
  rw [List.take_succ_eq_append_getElem hk, List.any_append]; simp
theorem any_oneW {q : Int → Bool} {xs : List Int} {k : Nat} {x : Int} (h : xs[k]? = some x) (hq : q x = true) : xs.any q = true :=
  List.any_eq_true.2 ⟨x, List.mem_of_getElem? h, hq⟩

/-- A place just if one works; -1 if none does. -/
def FoundIW (b : Bool) (w : World) (e : Ending) (w' : World) : Prop := ∃ i : Int, e = .returned (.int .i64 i) ∧ ((b = true ∧ 0 ≤ i) ∨ (b = false ∧ i = -1)) ∧ Below w.heap.size w w'

end Go.Proofs.Ytgacgaidlbkkmaa
