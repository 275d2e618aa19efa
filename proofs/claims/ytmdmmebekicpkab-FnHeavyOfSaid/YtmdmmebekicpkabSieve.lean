/- The program's filter of integers by a function's value; all states. -/
import Derived.Test.YtmdmmebekicpkabRowEq
namespace Go.Proofs.Ytmdmmebekicpkab
open Go.RowKit
set_option maxRecDepth 100000

theorem one_cell (x : Int) (w : World) (B : Nat) : ∀ j u, [(.int .i64 x : Value)][j]? = some u → (w.alloc (.cells #[.int .i64 x] B)).cell? ((⟨w.heap.size, 0, none⟩ : Addr).add j) = some u := by
  intro j u hj
  match j, hj with
  | 0, hj => simp at hj; subst hj; simp [Addr.add]
theorem take_filter_one {q : Int → Bool} {xs : List Int} {k : Nat} {x : Int} (h : xs[k]? = some x) : (xs.take (k + 1)).filter q = (xs.take k).filter q ++ (if q x = true then [x] else []) := by
  obtain ⟨hk, rfl⟩ := List.getElem?_eq_some_iff.1 h
  rw [List.take_succ_eq_append_getElem hk, List.filter_append]
  congr 1
  simp only [List.filter_cons, List.filter_nil]
theorem take_filter_len (q : Int → Bool) (xs : List Int) (k : Nat) : ((xs.take k).filter q).length ≤ k :=
  Nat.le_trans (List.length_filter_le _ _) (by rw [List.length_take]; omega)

end Go.Proofs.Ytmdmmebekicpkab
