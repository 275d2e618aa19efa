/-
  No cell of these rows narrows 'for every input' (looked for: loops, veiled, ifaces, maps, wideKeys, modest, calm, conditions, laid).
  DERIVED. THE GIVEN ROWS OF THIS SEAT. 6 by the template 'for every input the law returns true; each argument reads behind the call as it read before'; 0 by the template 'total and deterministic' (their statements: YtfflfinhhdhnkabTotals.lean).
  GIVEN WITH THE SEED: the statements are not yours to turn. If you find one false, say at which input.
  Laid BY PROGRAM, IN A SANDBOX (cutbox-rows.mjs): the forced cells as the released guide's own fill.sh prints them over the translation 57cacdeed8d5ebd1… (all of the seat's roots in one cut). By AI agents, Wed Nov 11 2026. No macro, syntax, notation, axiom, sorry.
-/
import Derived.Test.YtfflfinhhdhnkabChecked
import GoSem.Claim
import GoSem.ClaimJoined
import GoSem.ClaimMapViews
import Derived.JoinedTies
import Derived.KernelRfl
namespace Go.Proofs.Ytfflfinhhdhnkab
/- THE CELL 'sum', in the pinned program and in every row, IS THE sha256 OF THE DUMP (.gsa) THAT YtfflfinhhdhnkabProg.lean LOADS. Nothing in Lean hashes anything: it is a label: what it is worth is what the hold of that sum in a sandbox is worth. -/
noncomputable def Try.pinned : Pinned := { name := "ytfflfinhhdhnkab", sum := "57cacdeed8d5ebd1757c13273b716905ffd2e22859391c614375b1ecf6d8816e", checked := Try.checked }
namespace Rows
def none {H : Type} : Left H := { results := [], args := [] }

/-- 'laws.FnJoinedWays': WHATEVER THE INPUT: true; the input reads as it did. -/
def fnJoinedWaysSpec : ChangeSpec := { name := "fnJoinedWays", fn := fun _ => fun
  | [d] => { results := [.lit (.bool true)], args := [d] }
  | _ => none }
def fnJoinedWaysRow : OpenClaim := { program := "ytfflfinhhdhnkab", sum := "57cacdeed8d5ebd1757c13273b716905ffd2e22859391c614375b1ecf6d8816e", func := "loop.example/failingnets/laws.FnJoinedWays", spec := "fnJoinedWays", unfollowed := true, recurses := true, apart := false }
def FnJoinedWaysSaid : Prop := fnJoinedWaysRow.holds Try.pinned (OpenSpec.ofChange fnJoinedWaysSpec)

/-- ITS FALSE NEIGHBOUR: 'it returns false'. Refute it at one input. -/
def fnJoinedWaysWrong : ChangeSpec := { name := "fnJoinedWays", fn := fun _ => fun
  | [d] => { results := [.lit (.bool false)], args := [d] }
  | _ => none }
def FnJoinedWaysWrongFalsely : Prop := fnJoinedWaysRow.holds Try.pinned (OpenSpec.ofChange fnJoinedWaysWrong)

/-- 'laws.FnWholeWays': WHATEVER THE INPUT: true; the input reads as it did. -/
def fnWholeWaysSpec : ChangeSpec := { name := "fnWholeWays", fn := fun _ => fun
  | [d] => { results := [.lit (.bool true)], args := [d] }
  | _ => none }
def fnWholeWaysRow : OpenClaim := { program := "ytfflfinhhdhnkab", sum := "57cacdeed8d5ebd1757c13273b716905ffd2e22859391c614375b1ecf6d8816e", func := "loop.example/failingnets/laws.FnWholeWays", spec := "fnWholeWays", unfollowed := true, recurses := true, apart := false }
def FnWholeWaysSaid : Prop := fnWholeWaysRow.holds Try.pinned (OpenSpec.ofChange fnWholeWaysSpec)

/-- ITS FALSE NEIGHBOUR: 'it returns false'. Refute it at one input. -/
def fnWholeWaysWrong : ChangeSpec := { name := "fnWholeWays", fn := fun _ => fun
  | [d] => { results := [.lit (.bool false)], args := [d] }
  | _ => none }
def FnWholeWaysWrongFalsely : Prop := fnWholeWaysRow.holds Try.pinned (OpenSpec.ofChange fnWholeWaysWrong)

/-- 'laws.FnExactJoinedWays': WHATEVER THE INPUT: true; the input reads as it did. -/
def fnExactJoinedWaysSpec : ChangeSpec := { name := "fnExactJoinedWays", fn := fun _ => fun
  | [d1, d2, d3, d4, d5] => { results := [.lit (.bool true)], args := [d1, d2, d3, d4, d5] }
  | _ => none }
def fnExactJoinedWaysRow : OpenClaim := { program := "ytfflfinhhdhnkab", sum := "57cacdeed8d5ebd1757c13273b716905ffd2e22859391c614375b1ecf6d8816e", func := "loop.example/failingnets/laws.FnExactJoinedWays", spec := "fnExactJoinedWays", unfollowed := true, recurses := true, apart := false }
def FnExactJoinedWaysSaid : Prop := fnExactJoinedWaysRow.holds Try.pinned (OpenSpec.ofChange fnExactJoinedWaysSpec)

/-- ITS FALSE NEIGHBOUR: 'it returns false'. Refute it at one input. -/
def fnExactJoinedWaysWrong : ChangeSpec := { name := "fnExactJoinedWays", fn := fun _ => fun
  | [d1, d2, d3, d4, d5] => { results := [.lit (.bool false)], args := [d1, d2, d3, d4, d5] }
  | _ => none }
def FnExactJoinedWaysWrongFalsely : Prop := fnExactJoinedWaysRow.holds Try.pinned (OpenSpec.ofChange fnExactJoinedWaysWrong)

/-- 'laws.FnExactWholeWays': WHATEVER THE INPUT: true; the input reads as it did. -/
def fnExactWholeWaysSpec : ChangeSpec := { name := "fnExactWholeWays", fn := fun _ => fun
  | [d1, d2, d3] => { results := [.lit (.bool true)], args := [d1, d2, d3] }
  | _ => none }
def fnExactWholeWaysRow : OpenClaim := { program := "ytfflfinhhdhnkab", sum := "57cacdeed8d5ebd1757c13273b716905ffd2e22859391c614375b1ecf6d8816e", func := "loop.example/failingnets/laws.FnExactWholeWays", spec := "fnExactWholeWays", unfollowed := true, recurses := true, apart := false }
def FnExactWholeWaysSaid : Prop := fnExactWholeWaysRow.holds Try.pinned (OpenSpec.ofChange fnExactWholeWaysSpec)

/-- ITS FALSE NEIGHBOUR: 'it returns false'. Refute it at one input. -/
def fnExactWholeWaysWrong : ChangeSpec := { name := "fnExactWholeWays", fn := fun _ => fun
  | [d1, d2, d3] => { results := [.lit (.bool false)], args := [d1, d2, d3] }
  | _ => none }
def FnExactWholeWaysWrongFalsely : Prop := fnExactWholeWaysRow.holds Try.pinned (OpenSpec.ofChange fnExactWholeWaysWrong)

/-- 'laws.FnPivotCounts': WHATEVER THE INPUT: true; the input reads as it did. -/
def fnPivotCountsSpec : ChangeSpec := { name := "fnPivotCounts", fn := fun _ => fun
  | [d] => { results := [.lit (.bool true)], args := [d] }
  | _ => none }
def fnPivotCountsRow : OpenClaim := { program := "ytfflfinhhdhnkab", sum := "57cacdeed8d5ebd1757c13273b716905ffd2e22859391c614375b1ecf6d8816e", func := "loop.example/failingnets/laws.FnPivotCounts", spec := "fnPivotCounts", unfollowed := true, recurses := true, apart := false }
def FnPivotCountsSaid : Prop := fnPivotCountsRow.holds Try.pinned (OpenSpec.ofChange fnPivotCountsSpec)

/-- ITS FALSE NEIGHBOUR: 'it returns false'. Refute it at one input. -/
def fnPivotCountsWrong : ChangeSpec := { name := "fnPivotCounts", fn := fun _ => fun
  | [d] => { results := [.lit (.bool false)], args := [d] }
  | _ => none }
def FnPivotCountsWrongFalsely : Prop := fnPivotCountsRow.holds Try.pinned (OpenSpec.ofChange fnPivotCountsWrong)

/-- 'laws.FnAllPivots': WHATEVER THE INPUT: true; the input reads as it did. -/
def fnAllPivotsSpec : ChangeSpec := { name := "fnAllPivots", fn := fun _ => fun
  | [d] => { results := [.lit (.bool true)], args := [d] }
  | _ => none }
def fnAllPivotsRow : OpenClaim := { program := "ytfflfinhhdhnkab", sum := "57cacdeed8d5ebd1757c13273b716905ffd2e22859391c614375b1ecf6d8816e", func := "loop.example/failingnets/laws.FnAllPivots", spec := "fnAllPivots", unfollowed := true, recurses := true, apart := false }
def FnAllPivotsSaid : Prop := fnAllPivotsRow.holds Try.pinned (OpenSpec.ofChange fnAllPivotsSpec)

/-- ITS FALSE NEIGHBOUR: 'it returns false'. Refute it at one input. -/
def fnAllPivotsWrong : ChangeSpec := { name := "fnAllPivots", fn := fun _ => fun
  | [d] => { results := [.lit (.bool false)], args := [d] }
  | _ => none }
def FnAllPivotsWrongFalsely : Prop := fnAllPivotsRow.holds Try.pinned (OpenSpec.ofChange fnAllPivotsWrong)

/- THE SECOND FORM. 'bulk': how many values and letters a reading holds, each counted each time it is reached (what is shared counts as often as it is met; a slice's spare places count too). A statement '..UptoSaid' is the law's where the arguments, and the package variables that the reading takes, are together of bulk at most 1048576: NARROWER than '..Said'. Prove '..Said' where nothing that the law and all that it calls make is longer than what came in: it says more and counts as full. Else prove '..UptoSaid'. A law counts once. -/
mutual
def uptoBulk {H : Type} : DataW H → Nat
  | .lit (.string bytes) => bytes.length + 1
  | .lit _ => 1
  | .nil => 1
  | .ptr d => uptoBulk d + 1
  | .slice elems spare => uptoBulkAll elems + uptoBulkAll spare + 1
  | .agg parts => uptoBulkAll parts + 1
  | .iface _ d => uptoBulk d + 1
  | .map entries => uptoBulkEntries entries + 1
  | .held _ => 1
def uptoBulkAll {H : Type} : List (DataW H) → Nat
  | [] => 0
  | d :: r => uptoBulk d + uptoBulkAll r
def uptoBulkEntries {H : Type} : List (Lit × DataW H) → Nat
  | [] => 0
  | x :: r => uptoBulkEntry x + uptoBulkEntries r
def uptoBulkEntry {H : Type} : Lit × DataW H → Nat
  | (.string bytes, d) => bytes.length + uptoBulk d + 1
  | (_, d) => uptoBulk d + 1
 end
def uptoSmall : (H : Type) → List (DataW H) → Bool := fun _ ds => decide (uptoBulkAll ds ≤ 1048576)
def OpenSpec.upto (s : _root_.Go.ChangeSpec) : _root_.Go.OpenSpec := { _root_.Go.OpenSpec.ofChange s with cond := some uptoSmall }

/-- 'laws.FnJoinedWays', WHERE WHAT IT READS IS OF BULK AT MOST 1048576: true; the input reads as it did. -/
def fnJoinedWaysUptoRow : OpenClaim := { program := "ytfflfinhhdhnkab", sum := "57cacdeed8d5ebd1757c13273b716905ffd2e22859391c614375b1ecf6d8816e", func := "loop.example/failingnets/laws.FnJoinedWays", spec := "fnJoinedWays", unfollowed := true, recurses := true, apart := false, narrowed := true }
def FnJoinedWaysUptoSaid : Prop := fnJoinedWaysUptoRow.holds Try.pinned (OpenSpec.upto fnJoinedWaysSpec)

/-- 'laws.FnWholeWays', WHERE WHAT IT READS IS OF BULK AT MOST 1048576: true; the input reads as it did. -/
def fnWholeWaysUptoRow : OpenClaim := { program := "ytfflfinhhdhnkab", sum := "57cacdeed8d5ebd1757c13273b716905ffd2e22859391c614375b1ecf6d8816e", func := "loop.example/failingnets/laws.FnWholeWays", spec := "fnWholeWays", unfollowed := true, recurses := true, apart := false, narrowed := true }
def FnWholeWaysUptoSaid : Prop := fnWholeWaysUptoRow.holds Try.pinned (OpenSpec.upto fnWholeWaysSpec)

/-- 'laws.FnExactJoinedWays', WHERE WHAT IT READS IS OF BULK AT MOST 1048576: true; the input reads as it did. -/
def fnExactJoinedWaysUptoRow : OpenClaim := { program := "ytfflfinhhdhnkab", sum := "57cacdeed8d5ebd1757c13273b716905ffd2e22859391c614375b1ecf6d8816e", func := "loop.example/failingnets/laws.FnExactJoinedWays", spec := "fnExactJoinedWays", unfollowed := true, recurses := true, apart := false, narrowed := true }
def FnExactJoinedWaysUptoSaid : Prop := fnExactJoinedWaysUptoRow.holds Try.pinned (OpenSpec.upto fnExactJoinedWaysSpec)

/-- 'laws.FnExactWholeWays', WHERE WHAT IT READS IS OF BULK AT MOST 1048576: true; the input reads as it did. -/
def fnExactWholeWaysUptoRow : OpenClaim := { program := "ytfflfinhhdhnkab", sum := "57cacdeed8d5ebd1757c13273b716905ffd2e22859391c614375b1ecf6d8816e", func := "loop.example/failingnets/laws.FnExactWholeWays", spec := "fnExactWholeWays", unfollowed := true, recurses := true, apart := false, narrowed := true }
def FnExactWholeWaysUptoSaid : Prop := fnExactWholeWaysUptoRow.holds Try.pinned (OpenSpec.upto fnExactWholeWaysSpec)

/-- 'laws.FnPivotCounts', WHERE WHAT IT READS IS OF BULK AT MOST 1048576: true; the input reads as it did. -/
def fnPivotCountsUptoRow : OpenClaim := { program := "ytfflfinhhdhnkab", sum := "57cacdeed8d5ebd1757c13273b716905ffd2e22859391c614375b1ecf6d8816e", func := "loop.example/failingnets/laws.FnPivotCounts", spec := "fnPivotCounts", unfollowed := true, recurses := true, apart := false, narrowed := true }
def FnPivotCountsUptoSaid : Prop := fnPivotCountsUptoRow.holds Try.pinned (OpenSpec.upto fnPivotCountsSpec)

/-- 'laws.FnAllPivots', WHERE WHAT IT READS IS OF BULK AT MOST 1048576: true; the input reads as it did. -/
def fnAllPivotsUptoRow : OpenClaim := { program := "ytfflfinhhdhnkab", sum := "57cacdeed8d5ebd1757c13273b716905ffd2e22859391c614375b1ecf6d8816e", func := "loop.example/failingnets/laws.FnAllPivots", spec := "fnAllPivots", unfollowed := true, recurses := true, apart := false, narrowed := true }
def FnAllPivotsUptoSaid : Prop := fnAllPivotsUptoRow.holds Try.pinned (OpenSpec.upto fnAllPivotsSpec)

end Rows
end Go.Proofs.Ytfflfinhhdhnkab
