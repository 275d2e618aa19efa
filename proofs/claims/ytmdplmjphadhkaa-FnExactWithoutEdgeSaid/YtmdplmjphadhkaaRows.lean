/-
  No cell of these rows narrows 'for every input' (looked for: loops, veiled, ifaces, maps, wideKeys, modest, calm, conditions, laid).
  DERIVED. THE GIVEN ROWS OF THIS SEAT. 12 by the template 'for every input the law returns true; each argument reads behind the call as it read before'; 0 by the template 'total and deterministic' (their statements: YtmdplmjphadhkaaTotals.lean).
  GIVEN WITH THE SEED: the statements are not yours to turn. If you find one false, say at which input.
  Laid BY PROGRAM, IN A SANDBOX (cutbox-rows.mjs): the forced cells as the released guide's own fill.sh prints them over the translation bc1d80a3c34593c7… (all of the seat's roots in one cut). By AI agents, Wed Nov 11 2026. No macro, syntax, notation, axiom, sorry.
-/
import Derived.Test.YtmdplmjphadhkaaChecked
import GoSem.Claim
import GoSem.ClaimJoined
import GoSem.ClaimMapViews
import Derived.JoinedTies
import Derived.KernelRfl
namespace Go.Proofs.Ytmdplmjphadhkaa
/- THE CELL 'sum', in the pinned program and in every row, IS THE sha256 OF THE DUMP (.gsa) THAT YtmdplmjphadhkaaProg.lean LOADS. Nothing in Lean hashes anything: it is a label: what it is worth is what the hold of that sum in a sandbox is worth. -/
noncomputable def Try.pinned : Pinned := { name := "ytmdplmjphadhkaa", sum := "bc1d80a3c34593c711c8b6fa16c80ed9dde7542863eb9a74caf708950908404a", checked := Try.checked }
namespace Rows
def none {H : Type} : Left H := { results := [], args := [] }

/-- 'laws.FnNetOk': WHATEVER THE INPUT: true; the input reads as it did. -/
def fnNetOkSpec : ChangeSpec := { name := "fnNetOk", fn := fun _ => fun
  | [d] => { results := [.lit (.bool true)], args := [d] }
  | _ => none }
def fnNetOkRow : OpenClaim := { program := "ytmdplmjphadhkaa", sum := "bc1d80a3c34593c711c8b6fa16c80ed9dde7542863eb9a74caf708950908404a", func := "loop.example/failingnets/laws.FnNetOk", spec := "fnNetOk", apart := false }
def FnNetOkSaid : Prop := fnNetOkRow.holds Try.pinned (OpenSpec.ofChange fnNetOkSpec)

/-- ITS FALSE NEIGHBOUR: 'it returns false'. Refute it at one input. -/
def fnNetOkWrong : ChangeSpec := { name := "fnNetOk", fn := fun _ => fun
  | [d] => { results := [.lit (.bool false)], args := [d] }
  | _ => none }
def FnNetOkWrongFalsely : Prop := fnNetOkRow.holds Try.pinned (OpenSpec.ofChange fnNetOkWrong)

/-- 'laws.FnStateOk': WHATEVER THE INPUT: true; the input reads as it did. -/
def fnStateOkSpec : ChangeSpec := { name := "fnStateOk", fn := fun _ => fun
  | [d] => { results := [.lit (.bool true)], args := [d] }
  | _ => none }
def fnStateOkRow : OpenClaim := { program := "ytmdplmjphadhkaa", sum := "bc1d80a3c34593c711c8b6fa16c80ed9dde7542863eb9a74caf708950908404a", func := "loop.example/failingnets/laws.FnStateOk", spec := "fnStateOk", apart := false }
def FnStateOkSaid : Prop := fnStateOkRow.holds Try.pinned (OpenSpec.ofChange fnStateOkSpec)

/-- ITS FALSE NEIGHBOUR: 'it returns false'. Refute it at one input. -/
def fnStateOkWrong : ChangeSpec := { name := "fnStateOk", fn := fun _ => fun
  | [d] => { results := [.lit (.bool false)], args := [d] }
  | _ => none }
def FnStateOkWrongFalsely : Prop := fnStateOkRow.holds Try.pinned (OpenSpec.ofChange fnStateOkWrong)

/-- 'laws.FnThereOf': WHATEVER THE INPUT: true; the input reads as it did. -/
def fnThereOfSpec : ChangeSpec := { name := "fnThereOf", fn := fun _ => fun
  | [d] => { results := [.lit (.bool true)], args := [d] }
  | _ => none }
def fnThereOfRow : OpenClaim := { program := "ytmdplmjphadhkaa", sum := "bc1d80a3c34593c711c8b6fa16c80ed9dde7542863eb9a74caf708950908404a", func := "loop.example/failingnets/laws.FnThereOf", spec := "fnThereOf", apart := false }
def FnThereOfSaid : Prop := fnThereOfRow.holds Try.pinned (OpenSpec.ofChange fnThereOfSpec)

/-- ITS FALSE NEIGHBOUR: 'it returns false'. Refute it at one input. -/
def fnThereOfWrong : ChangeSpec := { name := "fnThereOf", fn := fun _ => fun
  | [d] => { results := [.lit (.bool false)], args := [d] }
  | _ => none }
def FnThereOfWrongFalsely : Prop := fnThereOfRow.holds Try.pinned (OpenSpec.ofChange fnThereOfWrong)

/-- 'laws.FnEdgesAt': WHATEVER THE INPUT: true; the input reads as it did. -/
def fnEdgesAtSpec : ChangeSpec := { name := "fnEdgesAt", fn := fun _ => fun
  | [d] => { results := [.lit (.bool true)], args := [d] }
  | _ => none }
def fnEdgesAtRow : OpenClaim := { program := "ytmdplmjphadhkaa", sum := "bc1d80a3c34593c711c8b6fa16c80ed9dde7542863eb9a74caf708950908404a", func := "loop.example/failingnets/laws.FnEdgesAt", spec := "fnEdgesAt", apart := false }
def FnEdgesAtSaid : Prop := fnEdgesAtRow.holds Try.pinned (OpenSpec.ofChange fnEdgesAtSpec)

/-- ITS FALSE NEIGHBOUR: 'it returns false'. Refute it at one input. -/
def fnEdgesAtWrong : ChangeSpec := { name := "fnEdgesAt", fn := fun _ => fun
  | [d] => { results := [.lit (.bool false)], args := [d] }
  | _ => none }
def FnEdgesAtWrongFalsely : Prop := fnEdgesAtRow.holds Try.pinned (OpenSpec.ofChange fnEdgesAtWrong)

/-- 'laws.FnWithoutEdge': WHATEVER THE INPUT: true; the input reads as it did. -/
def fnWithoutEdgeSpec : ChangeSpec := { name := "fnWithoutEdge", fn := fun _ => fun
  | [d] => { results := [.lit (.bool true)], args := [d] }
  | _ => none }
def fnWithoutEdgeRow : OpenClaim := { program := "ytmdplmjphadhkaa", sum := "bc1d80a3c34593c711c8b6fa16c80ed9dde7542863eb9a74caf708950908404a", func := "loop.example/failingnets/laws.FnWithoutEdge", spec := "fnWithoutEdge", apart := false }
def FnWithoutEdgeSaid : Prop := fnWithoutEdgeRow.holds Try.pinned (OpenSpec.ofChange fnWithoutEdgeSpec)

/-- ITS FALSE NEIGHBOUR: 'it returns false'. Refute it at one input. -/
def fnWithoutEdgeWrong : ChangeSpec := { name := "fnWithoutEdge", fn := fun _ => fun
  | [d] => { results := [.lit (.bool false)], args := [d] }
  | _ => none }
def FnWithoutEdgeWrongFalsely : Prop := fnWithoutEdgeRow.holds Try.pinned (OpenSpec.ofChange fnWithoutEdgeWrong)

/-- 'laws.FnMadeOne': WHATEVER THE INPUT: true; the input reads as it did. -/
def fnMadeOneSpec : ChangeSpec := { name := "fnMadeOne", fn := fun _ => fun
  | [d] => { results := [.lit (.bool true)], args := [d] }
  | _ => none }
def fnMadeOneRow : OpenClaim := { program := "ytmdplmjphadhkaa", sum := "bc1d80a3c34593c711c8b6fa16c80ed9dde7542863eb9a74caf708950908404a", func := "loop.example/failingnets/laws.FnMadeOne", spec := "fnMadeOne", unfollowed := true, recurses := true, apart := false }
def FnMadeOneSaid : Prop := fnMadeOneRow.holds Try.pinned (OpenSpec.ofChange fnMadeOneSpec)

/-- ITS FALSE NEIGHBOUR: 'it returns false'. Refute it at one input. -/
def fnMadeOneWrong : ChangeSpec := { name := "fnMadeOne", fn := fun _ => fun
  | [d] => { results := [.lit (.bool false)], args := [d] }
  | _ => none }
def FnMadeOneWrongFalsely : Prop := fnMadeOneRow.holds Try.pinned (OpenSpec.ofChange fnMadeOneWrong)

/-- 'laws.FnExactNetOk': WHATEVER THE INPUT: true; the input reads as it did. -/
def fnExactNetOkSpec : ChangeSpec := { name := "fnExactNetOk", fn := fun _ => fun
  | [d] => { results := [.lit (.bool true)], args := [d] }
  | _ => none }
def fnExactNetOkRow : OpenClaim := { program := "ytmdplmjphadhkaa", sum := "bc1d80a3c34593c711c8b6fa16c80ed9dde7542863eb9a74caf708950908404a", func := "loop.example/failingnets/laws.FnExactNetOk", spec := "fnExactNetOk", apart := false }
def FnExactNetOkSaid : Prop := fnExactNetOkRow.holds Try.pinned (OpenSpec.ofChange fnExactNetOkSpec)

/-- ITS FALSE NEIGHBOUR: 'it returns false'. Refute it at one input. -/
def fnExactNetOkWrong : ChangeSpec := { name := "fnExactNetOk", fn := fun _ => fun
  | [d] => { results := [.lit (.bool false)], args := [d] }
  | _ => none }
def FnExactNetOkWrongFalsely : Prop := fnExactNetOkRow.holds Try.pinned (OpenSpec.ofChange fnExactNetOkWrong)

/-- 'laws.FnExactStateOk': WHATEVER THE INPUT: true; the input reads as it did. -/
def fnExactStateOkSpec : ChangeSpec := { name := "fnExactStateOk", fn := fun _ => fun
  | [d1, d2] => { results := [.lit (.bool true)], args := [d1, d2] }
  | _ => none }
def fnExactStateOkRow : OpenClaim := { program := "ytmdplmjphadhkaa", sum := "bc1d80a3c34593c711c8b6fa16c80ed9dde7542863eb9a74caf708950908404a", func := "loop.example/failingnets/laws.FnExactStateOk", spec := "fnExactStateOk", apart := false }
def FnExactStateOkSaid : Prop := fnExactStateOkRow.holds Try.pinned (OpenSpec.ofChange fnExactStateOkSpec)

/-- ITS FALSE NEIGHBOUR: 'it returns false'. Refute it at one input. -/
def fnExactStateOkWrong : ChangeSpec := { name := "fnExactStateOk", fn := fun _ => fun
  | [d1, d2] => { results := [.lit (.bool false)], args := [d1, d2] }
  | _ => none }
def FnExactStateOkWrongFalsely : Prop := fnExactStateOkRow.holds Try.pinned (OpenSpec.ofChange fnExactStateOkWrong)

/-- 'laws.FnExactThereOf': WHATEVER THE INPUT: true; the input reads as it did. -/
def fnExactThereOfSpec : ChangeSpec := { name := "fnExactThereOf", fn := fun _ => fun
  | [d1, d2] => { results := [.lit (.bool true)], args := [d1, d2] }
  | _ => none }
def fnExactThereOfRow : OpenClaim := { program := "ytmdplmjphadhkaa", sum := "bc1d80a3c34593c711c8b6fa16c80ed9dde7542863eb9a74caf708950908404a", func := "loop.example/failingnets/laws.FnExactThereOf", spec := "fnExactThereOf", apart := false }
def FnExactThereOfSaid : Prop := fnExactThereOfRow.holds Try.pinned (OpenSpec.ofChange fnExactThereOfSpec)

/-- ITS FALSE NEIGHBOUR: 'it returns false'. Refute it at one input. -/
def fnExactThereOfWrong : ChangeSpec := { name := "fnExactThereOf", fn := fun _ => fun
  | [d1, d2] => { results := [.lit (.bool false)], args := [d1, d2] }
  | _ => none }
def FnExactThereOfWrongFalsely : Prop := fnExactThereOfRow.holds Try.pinned (OpenSpec.ofChange fnExactThereOfWrong)

/-- 'laws.FnExactEdgesAt': WHATEVER THE INPUT: true; the input reads as it did. -/
def fnExactEdgesAtSpec : ChangeSpec := { name := "fnExactEdgesAt", fn := fun _ => fun
  | [d1, d2] => { results := [.lit (.bool true)], args := [d1, d2] }
  | _ => none }
def fnExactEdgesAtRow : OpenClaim := { program := "ytmdplmjphadhkaa", sum := "bc1d80a3c34593c711c8b6fa16c80ed9dde7542863eb9a74caf708950908404a", func := "loop.example/failingnets/laws.FnExactEdgesAt", spec := "fnExactEdgesAt", apart := false }
def FnExactEdgesAtSaid : Prop := fnExactEdgesAtRow.holds Try.pinned (OpenSpec.ofChange fnExactEdgesAtSpec)

/-- ITS FALSE NEIGHBOUR: 'it returns false'. Refute it at one input. -/
def fnExactEdgesAtWrong : ChangeSpec := { name := "fnExactEdgesAt", fn := fun _ => fun
  | [d1, d2] => { results := [.lit (.bool false)], args := [d1, d2] }
  | _ => none }
def FnExactEdgesAtWrongFalsely : Prop := fnExactEdgesAtRow.holds Try.pinned (OpenSpec.ofChange fnExactEdgesAtWrong)

/-- 'laws.FnExactWithoutEdge': WHATEVER THE INPUT: true; the input reads as it did. -/
def fnExactWithoutEdgeSpec : ChangeSpec := { name := "fnExactWithoutEdge", fn := fun _ => fun
  | [d1, d2] => { results := [.lit (.bool true)], args := [d1, d2] }
  | _ => none }
def fnExactWithoutEdgeRow : OpenClaim := { program := "ytmdplmjphadhkaa", sum := "bc1d80a3c34593c711c8b6fa16c80ed9dde7542863eb9a74caf708950908404a", func := "loop.example/failingnets/laws.FnExactWithoutEdge", spec := "fnExactWithoutEdge", apart := false }
def FnExactWithoutEdgeSaid : Prop := fnExactWithoutEdgeRow.holds Try.pinned (OpenSpec.ofChange fnExactWithoutEdgeSpec)

/-- ITS FALSE NEIGHBOUR: 'it returns false'. Refute it at one input. -/
def fnExactWithoutEdgeWrong : ChangeSpec := { name := "fnExactWithoutEdge", fn := fun _ => fun
  | [d1, d2] => { results := [.lit (.bool false)], args := [d1, d2] }
  | _ => none }
def FnExactWithoutEdgeWrongFalsely : Prop := fnExactWithoutEdgeRow.holds Try.pinned (OpenSpec.ofChange fnExactWithoutEdgeWrong)

/-- 'laws.FnExactMadeOne': WHATEVER THE INPUT: true; the input reads as it did. -/
def fnExactMadeOneSpec : ChangeSpec := { name := "fnExactMadeOne", fn := fun _ => fun
  | [d1, d2] => { results := [.lit (.bool true)], args := [d1, d2] }
  | _ => none }
def fnExactMadeOneRow : OpenClaim := { program := "ytmdplmjphadhkaa", sum := "bc1d80a3c34593c711c8b6fa16c80ed9dde7542863eb9a74caf708950908404a", func := "loop.example/failingnets/laws.FnExactMadeOne", spec := "fnExactMadeOne", unfollowed := true, recurses := true, apart := false }
def FnExactMadeOneSaid : Prop := fnExactMadeOneRow.holds Try.pinned (OpenSpec.ofChange fnExactMadeOneSpec)

/-- ITS FALSE NEIGHBOUR: 'it returns false'. Refute it at one input. -/
def fnExactMadeOneWrong : ChangeSpec := { name := "fnExactMadeOne", fn := fun _ => fun
  | [d1, d2] => { results := [.lit (.bool false)], args := [d1, d2] }
  | _ => none }
def FnExactMadeOneWrongFalsely : Prop := fnExactMadeOneRow.holds Try.pinned (OpenSpec.ofChange fnExactMadeOneWrong)

/- THE SECOND FORM. 'bulk': how many values and letters a reading holds, each counted each time it is reached (what is shared counts as often as it is met; a slice's spare places count too). A statement '..UptoSaid' is the law's where the arguments, and the package variables that the reading takes, are together of bulk at most 1048576: NARROWER than '..Said'. Prove '..Said' where nothing that the law and all that it calls make is longer than what came in: it says more and counts as full. Else prove '..UptoSaid'. A law counts once. -/
mutual
def uptoBulk {H : Type} : DataW H → Nat
  | .lit (.string bytes) => bytes.length + 1
  | .lit _ => 1
  | .nil => 1
  | .ptr d => uptoBulk d + 1
  | .slice elems spare => uptoBulkAll elems + uptoBulkAll spare + 1
  | .agg parts => uptoBulkAll parts + 1
  | .iface _ d => uptoBulk d + 1
  | .map entries => uptoBulkEntries entries + 1
  | .held _ => 1
def uptoBulkAll {H : Type} : List (DataW H) → Nat
  | [] => 0
  | d :: r => uptoBulk d + uptoBulkAll r
def uptoBulkEntries {H : Type} : List (Lit × DataW H) → Nat
  | [] => 0
  | x :: r => uptoBulkEntry x + uptoBulkEntries r
def uptoBulkEntry {H : Type} : Lit × DataW H → Nat
  | (.string bytes, d) => bytes.length + uptoBulk d + 1
  | (_, d) => uptoBulk d + 1
 end
def uptoSmall : (H : Type) → List (DataW H) → Bool := fun _ ds => decide (uptoBulkAll ds ≤ 1048576)
def OpenSpec.upto (s : _root_.Go.ChangeSpec) : _root_.Go.OpenSpec := { _root_.Go.OpenSpec.ofChange s with cond := some uptoSmall }

/-- 'laws.FnNetOk', WHERE WHAT IT READS IS OF BULK AT MOST 1048576: true; the input reads as it did. -/
def fnNetOkUptoRow : OpenClaim := { program := "ytmdplmjphadhkaa", sum := "bc1d80a3c34593c711c8b6fa16c80ed9dde7542863eb9a74caf708950908404a", func := "loop.example/failingnets/laws.FnNetOk", spec := "fnNetOk", apart := false, narrowed := true }
def FnNetOkUptoSaid : Prop := fnNetOkUptoRow.holds Try.pinned (OpenSpec.upto fnNetOkSpec)

/-- 'laws.FnStateOk', WHERE WHAT IT READS IS OF BULK AT MOST 1048576: true; the input reads as it did. -/
def fnStateOkUptoRow : OpenClaim := { program := "ytmdplmjphadhkaa", sum := "bc1d80a3c34593c711c8b6fa16c80ed9dde7542863eb9a74caf708950908404a", func := "loop.example/failingnets/laws.FnStateOk", spec := "fnStateOk", apart := false, narrowed := true }
def FnStateOkUptoSaid : Prop := fnStateOkUptoRow.holds Try.pinned (OpenSpec.upto fnStateOkSpec)

/-- 'laws.FnThereOf', WHERE WHAT IT READS IS OF BULK AT MOST 1048576: true; the input reads as it did. -/
def fnThereOfUptoRow : OpenClaim := { program := "ytmdplmjphadhkaa", sum := "bc1d80a3c34593c711c8b6fa16c80ed9dde7542863eb9a74caf708950908404a", func := "loop.example/failingnets/laws.FnThereOf", spec := "fnThereOf", apart := false, narrowed := true }
def FnThereOfUptoSaid : Prop := fnThereOfUptoRow.holds Try.pinned (OpenSpec.upto fnThereOfSpec)

/-- 'laws.FnEdgesAt', WHERE WHAT IT READS IS OF BULK AT MOST 1048576: true; the input reads as it did. -/
def fnEdgesAtUptoRow : OpenClaim := { program := "ytmdplmjphadhkaa", sum := "bc1d80a3c34593c711c8b6fa16c80ed9dde7542863eb9a74caf708950908404a", func := "loop.example/failingnets/laws.FnEdgesAt", spec := "fnEdgesAt", apart := false, narrowed := true }
def FnEdgesAtUptoSaid : Prop := fnEdgesAtUptoRow.holds Try.pinned (OpenSpec.upto fnEdgesAtSpec)

/-- 'laws.FnWithoutEdge', WHERE WHAT IT READS IS OF BULK AT MOST 1048576: true; the input reads as it did. -/
def fnWithoutEdgeUptoRow : OpenClaim := { program := "ytmdplmjphadhkaa", sum := "bc1d80a3c34593c711c8b6fa16c80ed9dde7542863eb9a74caf708950908404a", func := "loop.example/failingnets/laws.FnWithoutEdge", spec := "fnWithoutEdge", apart := false, narrowed := true }
def FnWithoutEdgeUptoSaid : Prop := fnWithoutEdgeUptoRow.holds Try.pinned (OpenSpec.upto fnWithoutEdgeSpec)

/-- 'laws.FnMadeOne', WHERE WHAT IT READS IS OF BULK AT MOST 1048576: true; the input reads as it did. -/
def fnMadeOneUptoRow : OpenClaim := { program := "ytmdplmjphadhkaa", sum := "bc1d80a3c34593c711c8b6fa16c80ed9dde7542863eb9a74caf708950908404a", func := "loop.example/failingnets/laws.FnMadeOne", spec := "fnMadeOne", unfollowed := true, recurses := true, apart := false, narrowed := true }
def FnMadeOneUptoSaid : Prop := fnMadeOneUptoRow.holds Try.pinned (OpenSpec.upto fnMadeOneSpec)

/-- 'laws.FnExactNetOk', WHERE WHAT IT READS IS OF BULK AT MOST 1048576: true; the input reads as it did. -/
def fnExactNetOkUptoRow : OpenClaim := { program := "ytmdplmjphadhkaa", sum := "bc1d80a3c34593c711c8b6fa16c80ed9dde7542863eb9a74caf708950908404a", func := "loop.example/failingnets/laws.FnExactNetOk", spec := "fnExactNetOk", apart := false, narrowed := true }
def FnExactNetOkUptoSaid : Prop := fnExactNetOkUptoRow.holds Try.pinned (OpenSpec.upto fnExactNetOkSpec)

/-- 'laws.FnExactStateOk', WHERE WHAT IT READS IS OF BULK AT MOST 1048576: true; the input reads as it did. -/
def fnExactStateOkUptoRow : OpenClaim := { program := "ytmdplmjphadhkaa", sum := "bc1d80a3c34593c711c8b6fa16c80ed9dde7542863eb9a74caf708950908404a", func := "loop.example/failingnets/laws.FnExactStateOk", spec := "fnExactStateOk", apart := false, narrowed := true }
def FnExactStateOkUptoSaid : Prop := fnExactStateOkUptoRow.holds Try.pinned (OpenSpec.upto fnExactStateOkSpec)

/-- 'laws.FnExactThereOf', WHERE WHAT IT READS IS OF BULK AT MOST 1048576: true; the input reads as it did. -/
def fnExactThereOfUptoRow : OpenClaim := { program := "ytmdplmjphadhkaa", sum := "bc1d80a3c34593c711c8b6fa16c80ed9dde7542863eb9a74caf708950908404a", func := "loop.example/failingnets/laws.FnExactThereOf", spec := "fnExactThereOf", apart := false, narrowed := true }
def FnExactThereOfUptoSaid : Prop := fnExactThereOfUptoRow.holds Try.pinned (OpenSpec.upto fnExactThereOfSpec)

/-- 'laws.FnExactEdgesAt', WHERE WHAT IT READS IS OF BULK AT MOST 1048576: true; the input reads as it did. -/
def fnExactEdgesAtUptoRow : OpenClaim := { program := "ytmdplmjphadhkaa", sum := "bc1d80a3c34593c711c8b6fa16c80ed9dde7542863eb9a74caf708950908404a", func := "loop.example/failingnets/laws.FnExactEdgesAt", spec := "fnExactEdgesAt", apart := false, narrowed := true }
def FnExactEdgesAtUptoSaid : Prop := fnExactEdgesAtUptoRow.holds Try.pinned (OpenSpec.upto fnExactEdgesAtSpec)

/-- 'laws.FnExactWithoutEdge', WHERE WHAT IT READS IS OF BULK AT MOST 1048576: true; the input reads as it did. -/
def fnExactWithoutEdgeUptoRow : OpenClaim := { program := "ytmdplmjphadhkaa", sum := "bc1d80a3c34593c711c8b6fa16c80ed9dde7542863eb9a74caf708950908404a", func := "loop.example/failingnets/laws.FnExactWithoutEdge", spec := "fnExactWithoutEdge", apart := false, narrowed := true }
def FnExactWithoutEdgeUptoSaid : Prop := fnExactWithoutEdgeUptoRow.holds Try.pinned (OpenSpec.upto fnExactWithoutEdgeSpec)

/-- 'laws.FnExactMadeOne', WHERE WHAT IT READS IS OF BULK AT MOST 1048576: true; the input reads as it did. -/
def fnExactMadeOneUptoRow : OpenClaim := { program := "ytmdplmjphadhkaa", sum := "bc1d80a3c34593c711c8b6fa16c80ed9dde7542863eb9a74caf708950908404a", func := "loop.example/failingnets/laws.FnExactMadeOne", spec := "fnExactMadeOne", unfollowed := true, recurses := true, apart := false, narrowed := true }
def FnExactMadeOneUptoSaid : Prop := fnExactMadeOneUptoRow.holds Try.pinned (OpenSpec.upto fnExactMadeOneSpec)

end Rows
end Go.Proofs.Ytmdplmjphadhkaa
