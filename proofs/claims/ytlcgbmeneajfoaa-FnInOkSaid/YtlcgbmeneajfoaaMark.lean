/- markNet and heldNet: a row of edges is written over with a count, and found so again. -/
import Derived.Test.YtlcgbmeneajfoaaEd
import Derived.Test.YtlcgbmeneajfoaaRows
import Derived.OwnWalk
namespace Go.Proofs.Ytlcgbmeneajfoaa
open Go.RowKit
set_option maxRecDepth 100000

/-- What marking leaves: the numbers from k on. -/
def marks (k : Int) (m : Nat) : List (Int × Int) := (List.range m).map fun (i : Nat) => (k + 2 * (i : Int), k + 2 * (i : Int) + 1)
theorem marks_length (k : Int) (m : Nat) : (marks k m).length = m := by simp [marks]
theorem marks_get (k : Int) (m i : Nat) (h : i < m) : (marks k m)[i]? = some (k + 2 * (i : Int), k + 2 * (i : Int) + 1) := by simp [marks, h]

def MarkedE (w : World) (base : Nat) (v : Value) (k : Int) (m : Nat) (e : Ending) (w' : World) : Prop :=
  e = .returned (.int .i64 (k + 2 * (m : Int))) ∧ OwnE w' base v (marks k m) ∧ w.grownBy w' v.ownBlock

end Go.Proofs.Ytlcgbmeneajfoaa

/- toNet: a net of the law's own type turned to one of the program's. -/
namespace Go.Proofs.Ytlcgbmeneajfoaa
open Go.RowKit
set_option maxRecDepth 100000

theorem edge_info : (Try.prog.info? 81).map (fun i => (i.zero, i.size, i.bytes)) = some (some (.agg #[.int .i64 0, .int .i64 0]), 2, 16) := by kernel_rfl

end Go.Proofs.Ytlcgbmeneajfoaa
