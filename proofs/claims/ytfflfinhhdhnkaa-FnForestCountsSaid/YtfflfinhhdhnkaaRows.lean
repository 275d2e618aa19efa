/-
  No cell of these rows narrows 'for every input' (looked for: loops, veiled, ifaces, maps, wideKeys, modest, calm, conditions, laid).
  DERIVED. THE GIVEN ROWS OF THIS SEAT. 7 by the template 'for every input the law returns true; each argument reads behind the call as it read before'; 0 by the template 'total and deterministic' (their statements: YtfflfinhhdhnkaaTotals.lean).
  GIVEN WITH THE SEED: the statements are not yours to turn. If you find one false, say at which input.
  Laid BY PROGRAM, IN A SANDBOX (cutbox-rows.mjs): the forced cells as the released guide's own fill.sh prints them over the translation a273f3554addb05f… (all of the seat's roots in one cut). By AI agents, Wed Nov 11 2026. No macro, syntax, notation, axiom, sorry.
-/
import Derived.Test.YtfflfinhhdhnkaaChecked
import GoSem.Claim
import GoSem.ClaimJoined
import GoSem.ClaimMapViews
import Derived.JoinedTies
import Derived.KernelRfl
namespace Go.Proofs.Ytfflfinhhdhnkaa
/- THE CELL 'sum', in the pinned program and in every row, IS THE sha256 OF THE DUMP (.gsa) THAT YtfflfinhhdhnkaaProg.lean LOADS. Nothing in Lean hashes anything: it is a label: what it is worth is what the hold of that sum in a sandbox is worth. -/
noncomputable def Try.pinned : Pinned := { name := "ytfflfinhhdhnkaa", sum := "a273f3554addb05f5e6145d63ac1a6a9cc4a274bcb1a4c3f364a8ae41f5fd7d5", checked := Try.checked }
namespace Rows
def none {H : Type} : Left H := { results := [], args := [] }

/-- 'laws.FnJoiningCounts': WHATEVER THE INPUT: true; the input reads as it did. -/
def fnJoiningCountsSpec : ChangeSpec := { name := "fnJoiningCounts", fn := fun _ => fun
  | [d] => { results := [.lit (.bool true)], args := [d] }
  | _ => none }
def fnJoiningCountsRow : OpenClaim := { program := "ytfflfinhhdhnkaa", sum := "a273f3554addb05f5e6145d63ac1a6a9cc4a274bcb1a4c3f364a8ae41f5fd7d5", func := "loop.example/failingnets/laws.FnJoiningCounts", spec := "fnJoiningCounts", unfollowed := true, recurses := true, apart := false }
def FnJoiningCountsSaid : Prop := fnJoiningCountsRow.holds Try.pinned (OpenSpec.ofChange fnJoiningCountsSpec)

/-- ITS FALSE NEIGHBOUR: 'it returns false'. Refute it at one input. -/
def fnJoiningCountsWrong : ChangeSpec := { name := "fnJoiningCounts", fn := fun _ => fun
  | [d] => { results := [.lit (.bool false)], args := [d] }
  | _ => none }
def FnJoiningCountsWrongFalsely : Prop := fnJoiningCountsRow.holds Try.pinned (OpenSpec.ofChange fnJoiningCountsWrong)

/-- 'laws.FnWholeCounts': WHATEVER THE INPUT: true; the input reads as it did. -/
def fnWholeCountsSpec : ChangeSpec := { name := "fnWholeCounts", fn := fun _ => fun
  | [d] => { results := [.lit (.bool true)], args := [d] }
  | _ => none }
def fnWholeCountsRow : OpenClaim := { program := "ytfflfinhhdhnkaa", sum := "a273f3554addb05f5e6145d63ac1a6a9cc4a274bcb1a4c3f364a8ae41f5fd7d5", func := "loop.example/failingnets/laws.FnWholeCounts", spec := "fnWholeCounts", unfollowed := true, recurses := true, apart := false }
def FnWholeCountsSaid : Prop := fnWholeCountsRow.holds Try.pinned (OpenSpec.ofChange fnWholeCountsSpec)

/-- ITS FALSE NEIGHBOUR: 'it returns false'. Refute it at one input. -/
def fnWholeCountsWrong : ChangeSpec := { name := "fnWholeCounts", fn := fun _ => fun
  | [d] => { results := [.lit (.bool false)], args := [d] }
  | _ => none }
def FnWholeCountsWrongFalsely : Prop := fnWholeCountsRow.holds Try.pinned (OpenSpec.ofChange fnWholeCountsWrong)

/-- 'laws.FnForestCounts': WHATEVER THE INPUT: true; the input reads as it did. -/
def fnForestCountsSpec : ChangeSpec := { name := "fnForestCounts", fn := fun _ => fun
  | [d] => { results := [.lit (.bool true)], args := [d] }
  | _ => none }
def fnForestCountsRow : OpenClaim := { program := "ytfflfinhhdhnkaa", sum := "a273f3554addb05f5e6145d63ac1a6a9cc4a274bcb1a4c3f364a8ae41f5fd7d5", func := "loop.example/failingnets/laws.FnForestCounts", spec := "fnForestCounts", unfollowed := true, recurses := true, apart := false }
def FnForestCountsSaid : Prop := fnForestCountsRow.holds Try.pinned (OpenSpec.ofChange fnForestCountsSpec)

/-- ITS FALSE NEIGHBOUR: 'it returns false'. Refute it at one input. -/
def fnForestCountsWrong : ChangeSpec := { name := "fnForestCounts", fn := fun _ => fun
  | [d] => { results := [.lit (.bool false)], args := [d] }
  | _ => none }
def FnForestCountsWrongFalsely : Prop := fnForestCountsRow.holds Try.pinned (OpenSpec.ofChange fnForestCountsWrong)

/-- 'laws.FnExactJoiningCounts': WHATEVER THE INPUT: true; the input reads as it did. -/
def fnExactJoiningCountsSpec : ChangeSpec := { name := "fnExactJoiningCounts", fn := fun _ => fun
  | [d1, d2, d3] => { results := [.lit (.bool true)], args := [d1, d2, d3] }
  | _ => none }
def fnExactJoiningCountsRow : OpenClaim := { program := "ytfflfinhhdhnkaa", sum := "a273f3554addb05f5e6145d63ac1a6a9cc4a274bcb1a4c3f364a8ae41f5fd7d5", func := "loop.example/failingnets/laws.FnExactJoiningCounts", spec := "fnExactJoiningCounts", unfollowed := true, recurses := true, apart := false }
def FnExactJoiningCountsSaid : Prop := fnExactJoiningCountsRow.holds Try.pinned (OpenSpec.ofChange fnExactJoiningCountsSpec)

/-- ITS FALSE NEIGHBOUR: 'it returns false'. Refute it at one input. -/
def fnExactJoiningCountsWrong : ChangeSpec := { name := "fnExactJoiningCounts", fn := fun _ => fun
  | [d1, d2, d3] => { results := [.lit (.bool false)], args := [d1, d2, d3] }
  | _ => none }
def FnExactJoiningCountsWrongFalsely : Prop := fnExactJoiningCountsRow.holds Try.pinned (OpenSpec.ofChange fnExactJoiningCountsWrong)

/-- 'laws.FnExactWholeCounts': WHATEVER THE INPUT: true; the input reads as it did. -/
def fnExactWholeCountsSpec : ChangeSpec := { name := "fnExactWholeCounts", fn := fun _ => fun
  | [d] => { results := [.lit (.bool true)], args := [d] }
  | _ => none }
def fnExactWholeCountsRow : OpenClaim := { program := "ytfflfinhhdhnkaa", sum := "a273f3554addb05f5e6145d63ac1a6a9cc4a274bcb1a4c3f364a8ae41f5fd7d5", func := "loop.example/failingnets/laws.FnExactWholeCounts", spec := "fnExactWholeCounts", unfollowed := true, recurses := true, apart := false }
def FnExactWholeCountsSaid : Prop := fnExactWholeCountsRow.holds Try.pinned (OpenSpec.ofChange fnExactWholeCountsSpec)

/-- ITS FALSE NEIGHBOUR: 'it returns false'. Refute it at one input. -/
def fnExactWholeCountsWrong : ChangeSpec := { name := "fnExactWholeCounts", fn := fun _ => fun
  | [d] => { results := [.lit (.bool false)], args := [d] }
  | _ => none }
def FnExactWholeCountsWrongFalsely : Prop := fnExactWholeCountsRow.holds Try.pinned (OpenSpec.ofChange fnExactWholeCountsWrong)

/-- 'laws.FnExactForestCounts': WHATEVER THE INPUT: true; the input reads as it did. -/
def fnExactForestCountsSpec : ChangeSpec := { name := "fnExactForestCounts", fn := fun _ => fun
  | [d] => { results := [.lit (.bool true)], args := [d] }
  | _ => none }
def fnExactForestCountsRow : OpenClaim := { program := "ytfflfinhhdhnkaa", sum := "a273f3554addb05f5e6145d63ac1a6a9cc4a274bcb1a4c3f364a8ae41f5fd7d5", func := "loop.example/failingnets/laws.FnExactForestCounts", spec := "fnExactForestCounts", unfollowed := true, recurses := true, apart := false }
def FnExactForestCountsSaid : Prop := fnExactForestCountsRow.holds Try.pinned (OpenSpec.ofChange fnExactForestCountsSpec)

/-- ITS FALSE NEIGHBOUR: 'it returns false'. Refute it at one input. -/
def fnExactForestCountsWrong : ChangeSpec := { name := "fnExactForestCounts", fn := fun _ => fun
  | [d] => { results := [.lit (.bool false)], args := [d] }
  | _ => none }
def FnExactForestCountsWrongFalsely : Prop := fnExactForestCountsRow.holds Try.pinned (OpenSpec.ofChange fnExactForestCountsWrong)

/-- 'laws.FnShortestOf': WHATEVER THE INPUT: true; the input reads as it did. -/
def fnShortestOfSpec : ChangeSpec := { name := "fnShortestOf", fn := fun _ => fun
  | [d] => { results := [.lit (.bool true)], args := [d] }
  | _ => none }
def fnShortestOfRow : OpenClaim := { program := "ytfflfinhhdhnkaa", sum := "a273f3554addb05f5e6145d63ac1a6a9cc4a274bcb1a4c3f364a8ae41f5fd7d5", func := "loop.example/failingnets/laws.FnShortestOf", spec := "fnShortestOf", unfollowed := true, recurses := true, apart := false }
def FnShortestOfSaid : Prop := fnShortestOfRow.holds Try.pinned (OpenSpec.ofChange fnShortestOfSpec)

/-- ITS FALSE NEIGHBOUR: 'it returns false'. Refute it at one input. -/
def fnShortestOfWrong : ChangeSpec := { name := "fnShortestOf", fn := fun _ => fun
  | [d] => { results := [.lit (.bool false)], args := [d] }
  | _ => none }
def FnShortestOfWrongFalsely : Prop := fnShortestOfRow.holds Try.pinned (OpenSpec.ofChange fnShortestOfWrong)

/- THE SECOND FORM. 'bulk': how many values and letters a reading holds, each counted each time it is reached (what is shared counts as often as it is met; a slice's spare places count too). A statement '..UptoSaid' is the law's where the arguments, and the package variables that the reading takes, are together of bulk at most 1048576: NARROWER than '..Said'. Prove '..Said' where nothing that the law and all that it calls make is longer than what came in: it says more and counts as full. Else prove '..UptoSaid'. A law counts once. -/
mutual
def uptoBulk {H : Type} : DataW H → Nat
  | .lit (.string bytes) => bytes.length + 1
  | .lit _ => 1
  | .nil => 1
  | .ptr d => uptoBulk d + 1
  | .slice elems spare => uptoBulkAll elems + uptoBulkAll spare + 1
  | .agg parts => uptoBulkAll parts + 1
  | .iface _ d => uptoBulk d + 1
  | .map entries => uptoBulkEntries entries + 1
  | .held _ => 1
def uptoBulkAll {H : Type} : List (DataW H) → Nat
  | [] => 0
  | d :: r => uptoBulk d + uptoBulkAll r
def uptoBulkEntries {H : Type} : List (Lit × DataW H) → Nat
  | [] => 0
  | x :: r => uptoBulkEntry x + uptoBulkEntries r
def uptoBulkEntry {H : Type} : Lit × DataW H → Nat
  | (.string bytes, d) => bytes.length + uptoBulk d + 1
  | (_, d) => uptoBulk d + 1
 end
def uptoSmall : (H : Type) → List (DataW H) → Bool := fun _ ds => decide (uptoBulkAll ds ≤ 1048576)
def OpenSpec.upto (s : _root_.Go.ChangeSpec) : _root_.Go.OpenSpec := { _root_.Go.OpenSpec.ofChange s with cond := some uptoSmall }

/-- 'laws.FnJoiningCounts', WHERE WHAT IT READS IS OF BULK AT MOST 1048576: true; the input reads as it did. -/
def fnJoiningCountsUptoRow : OpenClaim := { program := "ytfflfinhhdhnkaa", sum := "a273f3554addb05f5e6145d63ac1a6a9cc4a274bcb1a4c3f364a8ae41f5fd7d5", func := "loop.example/failingnets/laws.FnJoiningCounts", spec := "fnJoiningCounts", unfollowed := true, recurses := true, apart := false, narrowed := true }
def FnJoiningCountsUptoSaid : Prop := fnJoiningCountsUptoRow.holds Try.pinned (OpenSpec.upto fnJoiningCountsSpec)

/-- 'laws.FnWholeCounts', WHERE WHAT IT READS IS OF BULK AT MOST 1048576: true; the input reads as it did. -/
def fnWholeCountsUptoRow : OpenClaim := { program := "ytfflfinhhdhnkaa", sum := "a273f3554addb05f5e6145d63ac1a6a9cc4a274bcb1a4c3f364a8ae41f5fd7d5", func := "loop.example/failingnets/laws.FnWholeCounts", spec := "fnWholeCounts", unfollowed := true, recurses := true, apart := false, narrowed := true }
def FnWholeCountsUptoSaid : Prop := fnWholeCountsUptoRow.holds Try.pinned (OpenSpec.upto fnWholeCountsSpec)

/-- 'laws.FnForestCounts', WHERE WHAT IT READS IS OF BULK AT MOST 1048576: true; the input reads as it did. -/
def fnForestCountsUptoRow : OpenClaim := { program := "ytfflfinhhdhnkaa", sum := "a273f3554addb05f5e6145d63ac1a6a9cc4a274bcb1a4c3f364a8ae41f5fd7d5", func := "loop.example/failingnets/laws.FnForestCounts", spec := "fnForestCounts", unfollowed := true, recurses := true, apart := false, narrowed := true }
def FnForestCountsUptoSaid : Prop := fnForestCountsUptoRow.holds Try.pinned (OpenSpec.upto fnForestCountsSpec)

/-- 'laws.FnExactJoiningCounts', WHERE WHAT IT READS IS OF BULK AT MOST 1048576: true; the input reads as it did. -/
def fnExactJoiningCountsUptoRow : OpenClaim := { program := "ytfflfinhhdhnkaa", sum := "a273f3554addb05f5e6145d63ac1a6a9cc4a274bcb1a4c3f364a8ae41f5fd7d5", func := "loop.example/failingnets/laws.FnExactJoiningCounts", spec := "fnExactJoiningCounts", unfollowed := true, recurses := true, apart := false, narrowed := true }
def FnExactJoiningCountsUptoSaid : Prop := fnExactJoiningCountsUptoRow.holds Try.pinned (OpenSpec.upto fnExactJoiningCountsSpec)

/-- 'laws.FnExactWholeCounts', WHERE WHAT IT READS IS OF BULK AT MOST 1048576: true; the input reads as it did. -/
def fnExactWholeCountsUptoRow : OpenClaim := { program := "ytfflfinhhdhnkaa", sum := "a273f3554addb05f5e6145d63ac1a6a9cc4a274bcb1a4c3f364a8ae41f5fd7d5", func := "loop.example/failingnets/laws.FnExactWholeCounts", spec := "fnExactWholeCounts", unfollowed := true, recurses := true, apart := false, narrowed := true }
def FnExactWholeCountsUptoSaid : Prop := fnExactWholeCountsUptoRow.holds Try.pinned (OpenSpec.upto fnExactWholeCountsSpec)

/-- 'laws.FnExactForestCounts', WHERE WHAT IT READS IS OF BULK AT MOST 1048576: true; the input reads as it did. -/
def fnExactForestCountsUptoRow : OpenClaim := { program := "ytfflfinhhdhnkaa", sum := "a273f3554addb05f5e6145d63ac1a6a9cc4a274bcb1a4c3f364a8ae41f5fd7d5", func := "loop.example/failingnets/laws.FnExactForestCounts", spec := "fnExactForestCounts", unfollowed := true, recurses := true, apart := false, narrowed := true }
def FnExactForestCountsUptoSaid : Prop := fnExactForestCountsUptoRow.holds Try.pinned (OpenSpec.upto fnExactForestCountsSpec)

/-- 'laws.FnShortestOf', WHERE WHAT IT READS IS OF BULK AT MOST 1048576: true; the input reads as it did. -/
def fnShortestOfUptoRow : OpenClaim := { program := "ytfflfinhhdhnkaa", sum := "a273f3554addb05f5e6145d63ac1a6a9cc4a274bcb1a4c3f364a8ae41f5fd7d5", func := "loop.example/failingnets/laws.FnShortestOf", spec := "fnShortestOf", unfollowed := true, recurses := true, apart := false, narrowed := true }
def FnShortestOfUptoSaid : Prop := fnShortestOfUptoRow.holds Try.pinned (OpenSpec.upto fnShortestOfSpec)

end Rows
end Go.Proofs.Ytfflfinhhdhnkaa
