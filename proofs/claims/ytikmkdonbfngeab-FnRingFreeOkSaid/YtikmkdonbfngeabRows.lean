/-
  No cell of these rows narrows 'for every input' (looked for: loops, veiled, ifaces, maps, wideKeys, modest, calm, conditions, laid).
  DERIVED. THE GIVEN ROWS OF THIS SEAT. 12 by the template 'for every input the law returns true; each argument reads behind the call as it read before'; 0 by the template 'total and deterministic' (their statements: YtikmkdonbfngeabTotals.lean).
  GIVEN WITH THE SEED: the statements are not yours to turn. If you find one false, say at which input.
  Laid BY PROGRAM, IN A SANDBOX (cutbox-rows.mjs): the forced cells as the released guide's own fill.sh prints them over the translation 7ef4d1b96eff9a01… (all of the seat's roots in one cut). By AI agents, Wed Nov 11 2026. No macro, syntax, notation, axiom, sorry.
-/
import Derived.Test.YtikmkdonbfngeabChecked
import GoSem.Claim
import GoSem.ClaimJoined
import GoSem.ClaimMapViews
import Derived.JoinedTies
import Derived.KernelRfl
namespace Go.Proofs.Ytikmkdonbfngeab
/- THE CELL 'sum', in the pinned program and in every row, IS THE sha256 OF THE DUMP (.gsa) THAT YtikmkdonbfngeabProg.lean LOADS. Nothing in Lean hashes anything: it is a label: what it is worth is what the hold of that sum in a sandbox is worth. -/
noncomputable def Try.pinned : Pinned := { name := "ytikmkdonbfngeab", sum := "7ef4d1b96eff9a0199ee04021d1ac15619e7eaf6171f8ae0917162cc0577a80b", checked := Try.checked }
namespace Rows
def none {H : Type} : Left H := { results := [], args := [] }

/-- 'laws.FnThereOf': WHATEVER THE INPUT: true; the input reads as it did. -/
def fnThereOfSpec : ChangeSpec := { name := "fnThereOf", fn := fun _ => fun
  | [d] => { results := [.lit (.bool true)], args := [d] }
  | _ => none }
def fnThereOfRow : OpenClaim := { program := "ytikmkdonbfngeab", sum := "7ef4d1b96eff9a0199ee04021d1ac15619e7eaf6171f8ae0917162cc0577a80b", func := "loop.example/failingnets/laws.FnThereOf", spec := "fnThereOf", apart := false }
def FnThereOfSaid : Prop := fnThereOfRow.holds Try.pinned (OpenSpec.ofChange fnThereOfSpec)

/-- ITS FALSE NEIGHBOUR: 'it returns false'. Refute it at one input. -/
def fnThereOfWrong : ChangeSpec := { name := "fnThereOf", fn := fun _ => fun
  | [d] => { results := [.lit (.bool false)], args := [d] }
  | _ => none }
def FnThereOfWrongFalsely : Prop := fnThereOfRow.holds Try.pinned (OpenSpec.ofChange fnThereOfWrong)

/-- 'laws.FnExactThereOf': WHATEVER THE INPUT: true; the input reads as it did. -/
def fnExactThereOfSpec : ChangeSpec := { name := "fnExactThereOf", fn := fun _ => fun
  | [d1, d2] => { results := [.lit (.bool true)], args := [d1, d2] }
  | _ => none }
def fnExactThereOfRow : OpenClaim := { program := "ytikmkdonbfngeab", sum := "7ef4d1b96eff9a0199ee04021d1ac15619e7eaf6171f8ae0917162cc0577a80b", func := "loop.example/failingnets/laws.FnExactThereOf", spec := "fnExactThereOf", apart := false }
def FnExactThereOfSaid : Prop := fnExactThereOfRow.holds Try.pinned (OpenSpec.ofChange fnExactThereOfSpec)

/-- ITS FALSE NEIGHBOUR: 'it returns false'. Refute it at one input. -/
def fnExactThereOfWrong : ChangeSpec := { name := "fnExactThereOf", fn := fun _ => fun
  | [d1, d2] => { results := [.lit (.bool false)], args := [d1, d2] }
  | _ => none }
def FnExactThereOfWrongFalsely : Prop := fnExactThereOfRow.holds Try.pinned (OpenSpec.ofChange fnExactThereOfWrong)

/-- 'laws.FnPiecesIn': WHATEVER THE INPUT: true; the input reads as it did. -/
def fnPiecesInSpec : ChangeSpec := { name := "fnPiecesIn", fn := fun _ => fun
  | [d] => { results := [.lit (.bool true)], args := [d] }
  | _ => none }
def fnPiecesInRow : OpenClaim := { program := "ytikmkdonbfngeab", sum := "7ef4d1b96eff9a0199ee04021d1ac15619e7eaf6171f8ae0917162cc0577a80b", func := "loop.example/failingnets/laws.FnPiecesIn", spec := "fnPiecesIn", apart := false }
def FnPiecesInSaid : Prop := fnPiecesInRow.holds Try.pinned (OpenSpec.ofChange fnPiecesInSpec)

/-- ITS FALSE NEIGHBOUR: 'it returns false'. Refute it at one input. -/
def fnPiecesInWrong : ChangeSpec := { name := "fnPiecesIn", fn := fun _ => fun
  | [d] => { results := [.lit (.bool false)], args := [d] }
  | _ => none }
def FnPiecesInWrongFalsely : Prop := fnPiecesInRow.holds Try.pinned (OpenSpec.ofChange fnPiecesInWrong)

/-- 'laws.FnExactPiecesIn': WHATEVER THE INPUT: true; the input reads as it did. -/
def fnExactPiecesInSpec : ChangeSpec := { name := "fnExactPiecesIn", fn := fun _ => fun
  | [d1, d2] => { results := [.lit (.bool true)], args := [d1, d2] }
  | _ => none }
def fnExactPiecesInRow : OpenClaim := { program := "ytikmkdonbfngeab", sum := "7ef4d1b96eff9a0199ee04021d1ac15619e7eaf6171f8ae0917162cc0577a80b", func := "loop.example/failingnets/laws.FnExactPiecesIn", spec := "fnExactPiecesIn", apart := false }
def FnExactPiecesInSaid : Prop := fnExactPiecesInRow.holds Try.pinned (OpenSpec.ofChange fnExactPiecesInSpec)

/-- ITS FALSE NEIGHBOUR: 'it returns false'. Refute it at one input. -/
def fnExactPiecesInWrong : ChangeSpec := { name := "fnExactPiecesIn", fn := fun _ => fun
  | [d1, d2] => { results := [.lit (.bool false)], args := [d1, d2] }
  | _ => none }
def FnExactPiecesInWrongFalsely : Prop := fnExactPiecesInRow.holds Try.pinned (OpenSpec.ofChange fnExactPiecesInWrong)

/-- 'laws.FnJoinedOk': WHATEVER THE INPUT: true; the input reads as it did. -/
def fnJoinedOkSpec : ChangeSpec := { name := "fnJoinedOk", fn := fun _ => fun
  | [d] => { results := [.lit (.bool true)], args := [d] }
  | _ => none }
def fnJoinedOkRow : OpenClaim := { program := "ytikmkdonbfngeab", sum := "7ef4d1b96eff9a0199ee04021d1ac15619e7eaf6171f8ae0917162cc0577a80b", func := "loop.example/failingnets/laws.FnJoinedOk", spec := "fnJoinedOk", apart := false }
def FnJoinedOkSaid : Prop := fnJoinedOkRow.holds Try.pinned (OpenSpec.ofChange fnJoinedOkSpec)

/-- ITS FALSE NEIGHBOUR: 'it returns false'. Refute it at one input. -/
def fnJoinedOkWrong : ChangeSpec := { name := "fnJoinedOk", fn := fun _ => fun
  | [d] => { results := [.lit (.bool false)], args := [d] }
  | _ => none }
def FnJoinedOkWrongFalsely : Prop := fnJoinedOkRow.holds Try.pinned (OpenSpec.ofChange fnJoinedOkWrong)

/-- 'laws.FnExactJoinedOk': WHATEVER THE INPUT: true; the input reads as it did. -/
def fnExactJoinedOkSpec : ChangeSpec := { name := "fnExactJoinedOk", fn := fun _ => fun
  | [d1, d2, d3, d4] => { results := [.lit (.bool true)], args := [d1, d2, d3, d4] }
  | _ => none }
def fnExactJoinedOkRow : OpenClaim := { program := "ytikmkdonbfngeab", sum := "7ef4d1b96eff9a0199ee04021d1ac15619e7eaf6171f8ae0917162cc0577a80b", func := "loop.example/failingnets/laws.FnExactJoinedOk", spec := "fnExactJoinedOk", apart := false }
def FnExactJoinedOkSaid : Prop := fnExactJoinedOkRow.holds Try.pinned (OpenSpec.ofChange fnExactJoinedOkSpec)

/-- ITS FALSE NEIGHBOUR: 'it returns false'. Refute it at one input. -/
def fnExactJoinedOkWrong : ChangeSpec := { name := "fnExactJoinedOk", fn := fun _ => fun
  | [d1, d2, d3, d4] => { results := [.lit (.bool false)], args := [d1, d2, d3, d4] }
  | _ => none }
def FnExactJoinedOkWrongFalsely : Prop := fnExactJoinedOkRow.holds Try.pinned (OpenSpec.ofChange fnExactJoinedOkWrong)

/-- 'laws.FnWholeOk': WHATEVER THE INPUT: true; the input reads as it did. -/
def fnWholeOkSpec : ChangeSpec := { name := "fnWholeOk", fn := fun _ => fun
  | [d] => { results := [.lit (.bool true)], args := [d] }
  | _ => none }
def fnWholeOkRow : OpenClaim := { program := "ytikmkdonbfngeab", sum := "7ef4d1b96eff9a0199ee04021d1ac15619e7eaf6171f8ae0917162cc0577a80b", func := "loop.example/failingnets/laws.FnWholeOk", spec := "fnWholeOk", apart := false }
def FnWholeOkSaid : Prop := fnWholeOkRow.holds Try.pinned (OpenSpec.ofChange fnWholeOkSpec)

/-- ITS FALSE NEIGHBOUR: 'it returns false'. Refute it at one input. -/
def fnWholeOkWrong : ChangeSpec := { name := "fnWholeOk", fn := fun _ => fun
  | [d] => { results := [.lit (.bool false)], args := [d] }
  | _ => none }
def FnWholeOkWrongFalsely : Prop := fnWholeOkRow.holds Try.pinned (OpenSpec.ofChange fnWholeOkWrong)

/-- 'laws.FnExactWholeOk': WHATEVER THE INPUT: true; the input reads as it did. -/
def fnExactWholeOkSpec : ChangeSpec := { name := "fnExactWholeOk", fn := fun _ => fun
  | [d1, d2] => { results := [.lit (.bool true)], args := [d1, d2] }
  | _ => none }
def fnExactWholeOkRow : OpenClaim := { program := "ytikmkdonbfngeab", sum := "7ef4d1b96eff9a0199ee04021d1ac15619e7eaf6171f8ae0917162cc0577a80b", func := "loop.example/failingnets/laws.FnExactWholeOk", spec := "fnExactWholeOk", apart := false }
def FnExactWholeOkSaid : Prop := fnExactWholeOkRow.holds Try.pinned (OpenSpec.ofChange fnExactWholeOkSpec)

/-- ITS FALSE NEIGHBOUR: 'it returns false'. Refute it at one input. -/
def fnExactWholeOkWrong : ChangeSpec := { name := "fnExactWholeOk", fn := fun _ => fun
  | [d1, d2] => { results := [.lit (.bool false)], args := [d1, d2] }
  | _ => none }
def FnExactWholeOkWrongFalsely : Prop := fnExactWholeOkRow.holds Try.pinned (OpenSpec.ofChange fnExactWholeOkWrong)

/-- 'laws.FnRankOf': WHATEVER THE INPUT: true; the input reads as it did. -/
def fnRankOfSpec : ChangeSpec := { name := "fnRankOf", fn := fun _ => fun
  | [d1, d2] => { results := [.lit (.bool true)], args := [d1, d2] }
  | _ => none }
def fnRankOfRow : OpenClaim := { program := "ytikmkdonbfngeab", sum := "7ef4d1b96eff9a0199ee04021d1ac15619e7eaf6171f8ae0917162cc0577a80b", func := "loop.example/failingnets/laws.FnRankOf", spec := "fnRankOf", apart := false }
def FnRankOfSaid : Prop := fnRankOfRow.holds Try.pinned (OpenSpec.ofChange fnRankOfSpec)

/-- ITS FALSE NEIGHBOUR: 'it returns false'. Refute it at one input. -/
def fnRankOfWrong : ChangeSpec := { name := "fnRankOf", fn := fun _ => fun
  | [d1, d2] => { results := [.lit (.bool false)], args := [d1, d2] }
  | _ => none }
def FnRankOfWrongFalsely : Prop := fnRankOfRow.holds Try.pinned (OpenSpec.ofChange fnRankOfWrong)

/-- 'laws.FnExactRankOf': WHATEVER THE INPUT: true; the input reads as it did. -/
def fnExactRankOfSpec : ChangeSpec := { name := "fnExactRankOf", fn := fun _ => fun
  | [d1, d2] => { results := [.lit (.bool true)], args := [d1, d2] }
  | _ => none }
def fnExactRankOfRow : OpenClaim := { program := "ytikmkdonbfngeab", sum := "7ef4d1b96eff9a0199ee04021d1ac15619e7eaf6171f8ae0917162cc0577a80b", func := "loop.example/failingnets/laws.FnExactRankOf", spec := "fnExactRankOf", apart := false }
def FnExactRankOfSaid : Prop := fnExactRankOfRow.holds Try.pinned (OpenSpec.ofChange fnExactRankOfSpec)

/-- ITS FALSE NEIGHBOUR: 'it returns false'. Refute it at one input. -/
def fnExactRankOfWrong : ChangeSpec := { name := "fnExactRankOf", fn := fun _ => fun
  | [d1, d2] => { results := [.lit (.bool false)], args := [d1, d2] }
  | _ => none }
def FnExactRankOfWrongFalsely : Prop := fnExactRankOfRow.holds Try.pinned (OpenSpec.ofChange fnExactRankOfWrong)

/-- 'laws.FnRingFreeOk': WHATEVER THE INPUT: true; the input reads as it did. -/
def fnRingFreeOkSpec : ChangeSpec := { name := "fnRingFreeOk", fn := fun _ => fun
  | [d] => { results := [.lit (.bool true)], args := [d] }
  | _ => none }
def fnRingFreeOkRow : OpenClaim := { program := "ytikmkdonbfngeab", sum := "7ef4d1b96eff9a0199ee04021d1ac15619e7eaf6171f8ae0917162cc0577a80b", func := "loop.example/failingnets/laws.FnRingFreeOk", spec := "fnRingFreeOk", apart := false }
def FnRingFreeOkSaid : Prop := fnRingFreeOkRow.holds Try.pinned (OpenSpec.ofChange fnRingFreeOkSpec)

/-- ITS FALSE NEIGHBOUR: 'it returns false'. Refute it at one input. -/
def fnRingFreeOkWrong : ChangeSpec := { name := "fnRingFreeOk", fn := fun _ => fun
  | [d] => { results := [.lit (.bool false)], args := [d] }
  | _ => none }
def FnRingFreeOkWrongFalsely : Prop := fnRingFreeOkRow.holds Try.pinned (OpenSpec.ofChange fnRingFreeOkWrong)

/-- 'laws.FnExactRingFreeOk': WHATEVER THE INPUT: true; the input reads as it did. -/
def fnExactRingFreeOkSpec : ChangeSpec := { name := "fnExactRingFreeOk", fn := fun _ => fun
  | [d1, d2] => { results := [.lit (.bool true)], args := [d1, d2] }
  | _ => none }
def fnExactRingFreeOkRow : OpenClaim := { program := "ytikmkdonbfngeab", sum := "7ef4d1b96eff9a0199ee04021d1ac15619e7eaf6171f8ae0917162cc0577a80b", func := "loop.example/failingnets/laws.FnExactRingFreeOk", spec := "fnExactRingFreeOk", apart := false }
def FnExactRingFreeOkSaid : Prop := fnExactRingFreeOkRow.holds Try.pinned (OpenSpec.ofChange fnExactRingFreeOkSpec)

/-- ITS FALSE NEIGHBOUR: 'it returns false'. Refute it at one input. -/
def fnExactRingFreeOkWrong : ChangeSpec := { name := "fnExactRingFreeOk", fn := fun _ => fun
  | [d1, d2] => { results := [.lit (.bool false)], args := [d1, d2] }
  | _ => none }
def FnExactRingFreeOkWrongFalsely : Prop := fnExactRingFreeOkRow.holds Try.pinned (OpenSpec.ofChange fnExactRingFreeOkWrong)

/- THE SECOND FORM. 'bulk': how many values and letters a reading holds, each counted each time it is reached (what is shared counts as often as it is met; a slice's spare places count too). A statement '..UptoSaid' is the law's where the arguments, and the package variables that the reading takes, are together of bulk at most 1048576: NARROWER than '..Said'. Prove '..Said' where nothing that the law and all that it calls make is longer than what came in: it says more and counts as full. Else prove '..UptoSaid'. A law counts once. -/
mutual
def uptoBulk {H : Type} : DataW H → Nat
  | .lit (.string bytes) => bytes.length + 1
  | .lit _ => 1
  | .nil => 1
  | .ptr d => uptoBulk d + 1
  | .slice elems spare => uptoBulkAll elems + uptoBulkAll spare + 1
  | .agg parts => uptoBulkAll parts + 1
  | .iface _ d => uptoBulk d + 1
  | .map entries => uptoBulkEntries entries + 1
  | .held _ => 1
def uptoBulkAll {H : Type} : List (DataW H) → Nat
  | [] => 0
  | d :: r => uptoBulk d + uptoBulkAll r
def uptoBulkEntries {H : Type} : List (Lit × DataW H) → Nat
  | [] => 0
  | x :: r => uptoBulkEntry x + uptoBulkEntries r
def uptoBulkEntry {H : Type} : Lit × DataW H → Nat
  | (.string bytes, d) => bytes.length + uptoBulk d + 1
  | (_, d) => uptoBulk d + 1
 end
def uptoSmall : (H : Type) → List (DataW H) → Bool := fun _ ds => decide (uptoBulkAll ds ≤ 1048576)
def OpenSpec.upto (s : _root_.Go.ChangeSpec) : _root_.Go.OpenSpec := { _root_.Go.OpenSpec.ofChange s with cond := some uptoSmall }

/-- 'laws.FnThereOf', WHERE WHAT IT READS IS OF BULK AT MOST 1048576: true; the input reads as it did. -/
def fnThereOfUptoRow : OpenClaim := { program := "ytikmkdonbfngeab", sum := "7ef4d1b96eff9a0199ee04021d1ac15619e7eaf6171f8ae0917162cc0577a80b", func := "loop.example/failingnets/laws.FnThereOf", spec := "fnThereOf", apart := false, narrowed := true }
def FnThereOfUptoSaid : Prop := fnThereOfUptoRow.holds Try.pinned (OpenSpec.upto fnThereOfSpec)

/-- 'laws.FnExactThereOf', WHERE WHAT IT READS IS OF BULK AT MOST 1048576: true; the input reads as it did. -/
def fnExactThereOfUptoRow : OpenClaim := { program := "ytikmkdonbfngeab", sum := "7ef4d1b96eff9a0199ee04021d1ac15619e7eaf6171f8ae0917162cc0577a80b", func := "loop.example/failingnets/laws.FnExactThereOf", spec := "fnExactThereOf", apart := false, narrowed := true }
def FnExactThereOfUptoSaid : Prop := fnExactThereOfUptoRow.holds Try.pinned (OpenSpec.upto fnExactThereOfSpec)

/-- 'laws.FnPiecesIn', WHERE WHAT IT READS IS OF BULK AT MOST 1048576: true; the input reads as it did. -/
def fnPiecesInUptoRow : OpenClaim := { program := "ytikmkdonbfngeab", sum := "7ef4d1b96eff9a0199ee04021d1ac15619e7eaf6171f8ae0917162cc0577a80b", func := "loop.example/failingnets/laws.FnPiecesIn", spec := "fnPiecesIn", apart := false, narrowed := true }
def FnPiecesInUptoSaid : Prop := fnPiecesInUptoRow.holds Try.pinned (OpenSpec.upto fnPiecesInSpec)

/-- 'laws.FnExactPiecesIn', WHERE WHAT IT READS IS OF BULK AT MOST 1048576: true; the input reads as it did. -/
def fnExactPiecesInUptoRow : OpenClaim := { program := "ytikmkdonbfngeab", sum := "7ef4d1b96eff9a0199ee04021d1ac15619e7eaf6171f8ae0917162cc0577a80b", func := "loop.example/failingnets/laws.FnExactPiecesIn", spec := "fnExactPiecesIn", apart := false, narrowed := true }
def FnExactPiecesInUptoSaid : Prop := fnExactPiecesInUptoRow.holds Try.pinned (OpenSpec.upto fnExactPiecesInSpec)

/-- 'laws.FnJoinedOk', WHERE WHAT IT READS IS OF BULK AT MOST 1048576: true; the input reads as it did. -/
def fnJoinedOkUptoRow : OpenClaim := { program := "ytikmkdonbfngeab", sum := "7ef4d1b96eff9a0199ee04021d1ac15619e7eaf6171f8ae0917162cc0577a80b", func := "loop.example/failingnets/laws.FnJoinedOk", spec := "fnJoinedOk", apart := false, narrowed := true }
def FnJoinedOkUptoSaid : Prop := fnJoinedOkUptoRow.holds Try.pinned (OpenSpec.upto fnJoinedOkSpec)

/-- 'laws.FnExactJoinedOk', WHERE WHAT IT READS IS OF BULK AT MOST 1048576: true; the input reads as it did. -/
def fnExactJoinedOkUptoRow : OpenClaim := { program := "ytikmkdonbfngeab", sum := "7ef4d1b96eff9a0199ee04021d1ac15619e7eaf6171f8ae0917162cc0577a80b", func := "loop.example/failingnets/laws.FnExactJoinedOk", spec := "fnExactJoinedOk", apart := false, narrowed := true }
def FnExactJoinedOkUptoSaid : Prop := fnExactJoinedOkUptoRow.holds Try.pinned (OpenSpec.upto fnExactJoinedOkSpec)

/-- 'laws.FnWholeOk', WHERE WHAT IT READS IS OF BULK AT MOST 1048576: true; the input reads as it did. -/
def fnWholeOkUptoRow : OpenClaim := { program := "ytikmkdonbfngeab", sum := "7ef4d1b96eff9a0199ee04021d1ac15619e7eaf6171f8ae0917162cc0577a80b", func := "loop.example/failingnets/laws.FnWholeOk", spec := "fnWholeOk", apart := false, narrowed := true }
def FnWholeOkUptoSaid : Prop := fnWholeOkUptoRow.holds Try.pinned (OpenSpec.upto fnWholeOkSpec)

/-- 'laws.FnExactWholeOk', WHERE WHAT IT READS IS OF BULK AT MOST 1048576: true; the input reads as it did. -/
def fnExactWholeOkUptoRow : OpenClaim := { program := "ytikmkdonbfngeab", sum := "7ef4d1b96eff9a0199ee04021d1ac15619e7eaf6171f8ae0917162cc0577a80b", func := "loop.example/failingnets/laws.FnExactWholeOk", spec := "fnExactWholeOk", apart := false, narrowed := true }
def FnExactWholeOkUptoSaid : Prop := fnExactWholeOkUptoRow.holds Try.pinned (OpenSpec.upto fnExactWholeOkSpec)

/-- 'laws.FnRankOf', WHERE WHAT IT READS IS OF BULK AT MOST 1048576: true; the input reads as it did. -/
def fnRankOfUptoRow : OpenClaim := { program := "ytikmkdonbfngeab", sum := "7ef4d1b96eff9a0199ee04021d1ac15619e7eaf6171f8ae0917162cc0577a80b", func := "loop.example/failingnets/laws.FnRankOf", spec := "fnRankOf", apart := false, narrowed := true }
def FnRankOfUptoSaid : Prop := fnRankOfUptoRow.holds Try.pinned (OpenSpec.upto fnRankOfSpec)

/-- 'laws.FnExactRankOf', WHERE WHAT IT READS IS OF BULK AT MOST 1048576: true; the input reads as it did. -/
def fnExactRankOfUptoRow : OpenClaim := { program := "ytikmkdonbfngeab", sum := "7ef4d1b96eff9a0199ee04021d1ac15619e7eaf6171f8ae0917162cc0577a80b", func := "loop.example/failingnets/laws.FnExactRankOf", spec := "fnExactRankOf", apart := false, narrowed := true }
def FnExactRankOfUptoSaid : Prop := fnExactRankOfUptoRow.holds Try.pinned (OpenSpec.upto fnExactRankOfSpec)

/-- 'laws.FnRingFreeOk', WHERE WHAT IT READS IS OF BULK AT MOST 1048576: true; the input reads as it did. -/
def fnRingFreeOkUptoRow : OpenClaim := { program := "ytikmkdonbfngeab", sum := "7ef4d1b96eff9a0199ee04021d1ac15619e7eaf6171f8ae0917162cc0577a80b", func := "loop.example/failingnets/laws.FnRingFreeOk", spec := "fnRingFreeOk", apart := false, narrowed := true }
def FnRingFreeOkUptoSaid : Prop := fnRingFreeOkUptoRow.holds Try.pinned (OpenSpec.upto fnRingFreeOkSpec)

/-- 'laws.FnExactRingFreeOk', WHERE WHAT IT READS IS OF BULK AT MOST 1048576: true; the input reads as it did. -/
def fnExactRingFreeOkUptoRow : OpenClaim := { program := "ytikmkdonbfngeab", sum := "7ef4d1b96eff9a0199ee04021d1ac15619e7eaf6171f8ae0917162cc0577a80b", func := "loop.example/failingnets/laws.FnExactRingFreeOk", spec := "fnExactRingFreeOk", apart := false, narrowed := true }
def FnExactRingFreeOkUptoSaid : Prop := fnExactRingFreeOkUptoRow.holds Try.pinned (OpenSpec.upto fnExactRingFreeOkSpec)

end Rows
end Go.Proofs.Ytikmkdonbfngeab
