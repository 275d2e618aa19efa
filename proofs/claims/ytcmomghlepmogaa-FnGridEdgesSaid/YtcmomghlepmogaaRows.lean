/-
  No cell of these rows narrows 'for every input' (looked for: loops, veiled, ifaces, maps, wideKeys, modest, calm, conditions, laid).
  DERIVED. THE GIVEN ROWS OF THIS SEAT. 4 by the template 'for every input the law returns true; each argument reads behind the call as it read before'; 0 by the template 'total and deterministic' (their statements: YtcmomghlepmogaaTotals.lean).
  GIVEN WITH THE SEED: the statements are not yours to turn. If you find one false, say at which input.
  Laid BY PROGRAM, IN A SANDBOX (cutbox-rows.mjs): the forced cells as the released guide's own fill.sh prints them over the translation d5f7d7e3a5f23368… (all of the seat's roots in one cut). By AI agents, Wed Nov 11 2026. No macro, syntax, notation, axiom, sorry.
-/
import Derived.Test.YtcmomghlepmogaaChecked
import GoSem.Claim
import GoSem.ClaimJoined
import GoSem.ClaimMapViews
import Derived.JoinedTies
import Derived.KernelRfl
namespace Go.Proofs.Ytcmomghlepmogaa
/- THE CELL 'sum', in the pinned program and in every row, IS THE sha256 OF THE DUMP (.gsa) THAT YtcmomghlepmogaaProg.lean LOADS. Nothing in Lean hashes anything: it is a label: what it is worth is what the hold of that sum in a sandbox is worth. -/
noncomputable def Try.pinned : Pinned := { name := "ytcmomghlepmogaa", sum := "d5f7d7e3a5f23368af37f84ac385c5a094e165b5276b60db2ae0f56f807c1db9", checked := Try.checked }
namespace Rows
def none {H : Type} : Left H := { results := [], args := [] }

/-- 'laws.FnGridOk': WHATEVER THE INPUT: true; the input reads as it did. -/
def fnGridOkSpec : ChangeSpec := { name := "fnGridOk", fn := fun _ => fun
  | [d] => { results := [.lit (.bool true)], args := [d] }
  | _ => none }
def fnGridOkRow : OpenClaim := { program := "ytcmomghlepmogaa", sum := "d5f7d7e3a5f23368af37f84ac385c5a094e165b5276b60db2ae0f56f807c1db9", func := "loop.example/failingnets/laws.FnGridOk", spec := "fnGridOk", apart := false }
def FnGridOkSaid : Prop := fnGridOkRow.holds Try.pinned (OpenSpec.ofChange fnGridOkSpec)

/-- ITS FALSE NEIGHBOUR: 'it returns false'. Refute it at one input. -/
def fnGridOkWrong : ChangeSpec := { name := "fnGridOk", fn := fun _ => fun
  | [d] => { results := [.lit (.bool false)], args := [d] }
  | _ => none }
def FnGridOkWrongFalsely : Prop := fnGridOkRow.holds Try.pinned (OpenSpec.ofChange fnGridOkWrong)

/-- 'laws.FnGridEdges': WHATEVER THE INPUT: true; the input reads as it did. -/
def fnGridEdgesSpec : ChangeSpec := { name := "fnGridEdges", fn := fun _ => fun
  | [d] => { results := [.lit (.bool true)], args := [d] }
  | _ => none }
def fnGridEdgesRow : OpenClaim := { program := "ytcmomghlepmogaa", sum := "d5f7d7e3a5f23368af37f84ac385c5a094e165b5276b60db2ae0f56f807c1db9", func := "loop.example/failingnets/laws.FnGridEdges", spec := "fnGridEdges", apart := false }
def FnGridEdgesSaid : Prop := fnGridEdgesRow.holds Try.pinned (OpenSpec.ofChange fnGridEdgesSpec)

/-- ITS FALSE NEIGHBOUR: 'it returns false'. Refute it at one input. -/
def fnGridEdgesWrong : ChangeSpec := { name := "fnGridEdges", fn := fun _ => fun
  | [d] => { results := [.lit (.bool false)], args := [d] }
  | _ => none }
def FnGridEdgesWrongFalsely : Prop := fnGridEdgesRow.holds Try.pinned (OpenSpec.ofChange fnGridEdgesWrong)

/-- 'laws.FnExactGridOk': WHATEVER THE INPUT: true; the input reads as it did. -/
def fnExactGridOkSpec : ChangeSpec := { name := "fnExactGridOk", fn := fun _ => fun
  | [d1, d2] => { results := [.lit (.bool true)], args := [d1, d2] }
  | _ => none }
def fnExactGridOkRow : OpenClaim := { program := "ytcmomghlepmogaa", sum := "d5f7d7e3a5f23368af37f84ac385c5a094e165b5276b60db2ae0f56f807c1db9", func := "loop.example/failingnets/laws.FnExactGridOk", spec := "fnExactGridOk", apart := false }
def FnExactGridOkSaid : Prop := fnExactGridOkRow.holds Try.pinned (OpenSpec.ofChange fnExactGridOkSpec)

/-- ITS FALSE NEIGHBOUR: 'it returns false'. Refute it at one input. -/
def fnExactGridOkWrong : ChangeSpec := { name := "fnExactGridOk", fn := fun _ => fun
  | [d1, d2] => { results := [.lit (.bool false)], args := [d1, d2] }
  | _ => none }
def FnExactGridOkWrongFalsely : Prop := fnExactGridOkRow.holds Try.pinned (OpenSpec.ofChange fnExactGridOkWrong)

/-- 'laws.FnExactGridEdges': WHATEVER THE INPUT: true; the input reads as it did. -/
def fnExactGridEdgesSpec : ChangeSpec := { name := "fnExactGridEdges", fn := fun _ => fun
  | [d1, d2] => { results := [.lit (.bool true)], args := [d1, d2] }
  | _ => none }
def fnExactGridEdgesRow : OpenClaim := { program := "ytcmomghlepmogaa", sum := "d5f7d7e3a5f23368af37f84ac385c5a094e165b5276b60db2ae0f56f807c1db9", func := "loop.example/failingnets/laws.FnExactGridEdges", spec := "fnExactGridEdges", apart := false }
def FnExactGridEdgesSaid : Prop := fnExactGridEdgesRow.holds Try.pinned (OpenSpec.ofChange fnExactGridEdgesSpec)

/-- ITS FALSE NEIGHBOUR: 'it returns false'. Refute it at one input. -/
def fnExactGridEdgesWrong : ChangeSpec := { name := "fnExactGridEdges", fn := fun _ => fun
  | [d1, d2] => { results := [.lit (.bool false)], args := [d1, d2] }
  | _ => none }
def FnExactGridEdgesWrongFalsely : Prop := fnExactGridEdgesRow.holds Try.pinned (OpenSpec.ofChange fnExactGridEdgesWrong)

/- THE SECOND FORM. 'bulk': how many values and letters a reading holds, each counted each time it is reached (what is shared counts as often as it is met; a slice's spare places count too). A statement '..UptoSaid' is the law's where the arguments, and the package variables that the reading takes, are together of bulk at most 1048576: NARROWER than '..Said'. Prove '..Said' where nothing that the law and all that it calls make is longer than what came in: it says more and counts as full. Else prove '..UptoSaid'. A law counts once. -/
mutual
def uptoBulk {H : Type} : DataW H → Nat
  | .lit (.string bytes) => bytes.length + 1
  | .lit _ => 1
  | .nil => 1
  | .ptr d => uptoBulk d + 1
  | .slice elems spare => uptoBulkAll elems + uptoBulkAll spare + 1
  | .agg parts => uptoBulkAll parts + 1
  | .iface _ d => uptoBulk d + 1
  | .map entries => uptoBulkEntries entries + 1
  | .held _ => 1
def uptoBulkAll {H : Type} : List (DataW H) → Nat
  | [] => 0
  | d :: r => uptoBulk d + uptoBulkAll r
def uptoBulkEntries {H : Type} : List (Lit × DataW H) → Nat
  | [] => 0
  | x :: r => uptoBulkEntry x + uptoBulkEntries r
def uptoBulkEntry {H : Type} : Lit × DataW H → Nat
  | (.string bytes, d) => bytes.length + uptoBulk d + 1
  | (_, d) => uptoBulk d + 1
 end
def uptoSmall : (H : Type) → List (DataW H) → Bool := fun _ ds => decide (uptoBulkAll ds ≤ 1048576)
def OpenSpec.upto (s : _root_.Go.ChangeSpec) : _root_.Go.OpenSpec := { _root_.Go.OpenSpec.ofChange s with cond := some uptoSmall }

/-- 'laws.FnGridOk', WHERE WHAT IT READS IS OF BULK AT MOST 1048576: true; the input reads as it did. -/
def fnGridOkUptoRow : OpenClaim := { program := "ytcmomghlepmogaa", sum := "d5f7d7e3a5f23368af37f84ac385c5a094e165b5276b60db2ae0f56f807c1db9", func := "loop.example/failingnets/laws.FnGridOk", spec := "fnGridOk", apart := false, narrowed := true }
def FnGridOkUptoSaid : Prop := fnGridOkUptoRow.holds Try.pinned (OpenSpec.upto fnGridOkSpec)

/-- 'laws.FnGridEdges', WHERE WHAT IT READS IS OF BULK AT MOST 1048576: true; the input reads as it did. -/
def fnGridEdgesUptoRow : OpenClaim := { program := "ytcmomghlepmogaa", sum := "d5f7d7e3a5f23368af37f84ac385c5a094e165b5276b60db2ae0f56f807c1db9", func := "loop.example/failingnets/laws.FnGridEdges", spec := "fnGridEdges", apart := false, narrowed := true }
def FnGridEdgesUptoSaid : Prop := fnGridEdgesUptoRow.holds Try.pinned (OpenSpec.upto fnGridEdgesSpec)

/-- 'laws.FnExactGridOk', WHERE WHAT IT READS IS OF BULK AT MOST 1048576: true; the input reads as it did. -/
def fnExactGridOkUptoRow : OpenClaim := { program := "ytcmomghlepmogaa", sum := "d5f7d7e3a5f23368af37f84ac385c5a094e165b5276b60db2ae0f56f807c1db9", func := "loop.example/failingnets/laws.FnExactGridOk", spec := "fnExactGridOk", apart := false, narrowed := true }
def FnExactGridOkUptoSaid : Prop := fnExactGridOkUptoRow.holds Try.pinned (OpenSpec.upto fnExactGridOkSpec)

/-- 'laws.FnExactGridEdges', WHERE WHAT IT READS IS OF BULK AT MOST 1048576: true; the input reads as it did. -/
def fnExactGridEdgesUptoRow : OpenClaim := { program := "ytcmomghlepmogaa", sum := "d5f7d7e3a5f23368af37f84ac385c5a094e165b5276b60db2ae0f56f807c1db9", func := "loop.example/failingnets/laws.FnExactGridEdges", spec := "fnExactGridEdges", apart := false, narrowed := true }
def FnExactGridEdgesUptoSaid : Prop := fnExactGridEdgesUptoRow.holds Try.pinned (OpenSpec.upto fnExactGridEdgesSpec)

end Rows
end Go.Proofs.Ytcmomghlepmogaa
