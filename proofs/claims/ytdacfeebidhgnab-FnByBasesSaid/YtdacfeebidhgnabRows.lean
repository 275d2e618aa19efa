/-
  No cell of these rows narrows 'for every input' (looked for: loops, veiled, ifaces, maps, wideKeys, modest, calm, conditions, laid).
  DERIVED. THE GIVEN ROWS OF THIS SEAT. 12 by the template 'for every input the law returns true; each argument reads behind the call as it read before'; 0 by the template 'total and deterministic' (their statements: YtdacfeebidhgnabTotals.lean).
  GIVEN WITH THE SEED: the statements are not yours to turn. If you find one false, say at which input.
  Laid BY PROGRAM, IN A SANDBOX (cutbox-rows.mjs): the forced cells as the released guide's own fill.sh prints them over the translation 5c8dfa69662064e3… (all of the seat's roots in one cut). By AI agents, Wed Nov 11 2026. No macro, syntax, notation, axiom, sorry.
-/
import Derived.Test.YtdacfeebidhgnabChecked
import GoSem.Claim
import GoSem.ClaimJoined
import GoSem.ClaimMapViews
import Derived.JoinedTies
import Derived.KernelRfl
namespace Go.Proofs.Ytdacfeebidhgnab
/- THE CELL 'sum', in the pinned program and in every row, IS THE sha256 OF THE DUMP (.gsa) THAT YtdacfeebidhgnabProg.lean LOADS. Nothing in Lean hashes anything: it is a label: what it is worth is what the hold of that sum in a sandbox is worth. -/
noncomputable def Try.pinned : Pinned := { name := "ytdacfeebidhgnab", sum := "5c8dfa69662064e3eb8367d4f8e2a92fef3388384bcc8678854cbe15e7d704f0", checked := Try.checked }
namespace Rows
def none {H : Type} : Left H := { results := [], args := [] }

/-- 'laws.FnByStates': WHATEVER THE INPUT: true; the input reads as it did. -/
def fnByStatesSpec : ChangeSpec := { name := "fnByStates", fn := fun _ => fun
  | [d] => { results := [.lit (.bool true)], args := [d] }
  | _ => none }
def fnByStatesRow : OpenClaim := { program := "ytdacfeebidhgnab", sum := "5c8dfa69662064e3eb8367d4f8e2a92fef3388384bcc8678854cbe15e7d704f0", func := "loop.example/failingnets/laws.FnByStates", spec := "fnByStates", unfollowed := true, recurses := true, apart := false }
def FnByStatesSaid : Prop := fnByStatesRow.holds Try.pinned (OpenSpec.ofChange fnByStatesSpec)

/-- ITS FALSE NEIGHBOUR: 'it returns false'. Refute it at one input. -/
def fnByStatesWrong : ChangeSpec := { name := "fnByStates", fn := fun _ => fun
  | [d] => { results := [.lit (.bool false)], args := [d] }
  | _ => none }
def FnByStatesWrongFalsely : Prop := fnByStatesRow.holds Try.pinned (OpenSpec.ofChange fnByStatesWrong)

/-- 'laws.FnByBases': WHATEVER THE INPUT: true; the input reads as it did. -/
def fnByBasesSpec : ChangeSpec := { name := "fnByBases", fn := fun _ => fun
  | [d] => { results := [.lit (.bool true)], args := [d] }
  | _ => none }
def fnByBasesRow : OpenClaim := { program := "ytdacfeebidhgnab", sum := "5c8dfa69662064e3eb8367d4f8e2a92fef3388384bcc8678854cbe15e7d704f0", func := "loop.example/failingnets/laws.FnByBases", spec := "fnByBases", unfollowed := true, recurses := true, apart := false }
def FnByBasesSaid : Prop := fnByBasesRow.holds Try.pinned (OpenSpec.ofChange fnByBasesSpec)

/-- ITS FALSE NEIGHBOUR: 'it returns false'. Refute it at one input. -/
def fnByBasesWrong : ChangeSpec := { name := "fnByBases", fn := fun _ => fun
  | [d] => { results := [.lit (.bool false)], args := [d] }
  | _ => none }
def FnByBasesWrongFalsely : Prop := fnByBasesRow.holds Try.pinned (OpenSpec.ofChange fnByBasesWrong)

/-- 'laws.FnByEdges': WHATEVER THE INPUT: true; the input reads as it did. -/
def fnByEdgesSpec : ChangeSpec := { name := "fnByEdges", fn := fun _ => fun
  | [d] => { results := [.lit (.bool true)], args := [d] }
  | _ => none }
def fnByEdgesRow : OpenClaim := { program := "ytdacfeebidhgnab", sum := "5c8dfa69662064e3eb8367d4f8e2a92fef3388384bcc8678854cbe15e7d704f0", func := "loop.example/failingnets/laws.FnByEdges", spec := "fnByEdges", unfollowed := true, recurses := true, apart := false }
def FnByEdgesSaid : Prop := fnByEdgesRow.holds Try.pinned (OpenSpec.ofChange fnByEdgesSpec)

/-- ITS FALSE NEIGHBOUR: 'it returns false'. Refute it at one input. -/
def fnByEdgesWrong : ChangeSpec := { name := "fnByEdges", fn := fun _ => fun
  | [d] => { results := [.lit (.bool false)], args := [d] }
  | _ => none }
def FnByEdgesWrongFalsely : Prop := fnByEdgesRow.holds Try.pinned (OpenSpec.ofChange fnByEdgesWrong)

/-- 'laws.FnCountAllBack': WHATEVER THE INPUT: true; the input reads as it did. -/
def fnCountAllBackSpec : ChangeSpec := { name := "fnCountAllBack", fn := fun _ => fun
  | [d] => { results := [.lit (.bool true)], args := [d] }
  | _ => none }
def fnCountAllBackRow : OpenClaim := { program := "ytdacfeebidhgnab", sum := "5c8dfa69662064e3eb8367d4f8e2a92fef3388384bcc8678854cbe15e7d704f0", func := "loop.example/failingnets/laws.FnCountAllBack", spec := "fnCountAllBack", unfollowed := true, recurses := true, apart := false }
def FnCountAllBackSaid : Prop := fnCountAllBackRow.holds Try.pinned (OpenSpec.ofChange fnCountAllBackSpec)

/-- ITS FALSE NEIGHBOUR: 'it returns false'. Refute it at one input. -/
def fnCountAllBackWrong : ChangeSpec := { name := "fnCountAllBack", fn := fun _ => fun
  | [d] => { results := [.lit (.bool false)], args := [d] }
  | _ => none }
def FnCountAllBackWrongFalsely : Prop := fnCountAllBackRow.holds Try.pinned (OpenSpec.ofChange fnCountAllBackWrong)

/-- 'laws.FnPaintedValue': WHATEVER THE INPUT: true; the input reads as it did. -/
def fnPaintedValueSpec : ChangeSpec := { name := "fnPaintedValue", fn := fun _ => fun
  | [d] => { results := [.lit (.bool true)], args := [d] }
  | _ => none }
def fnPaintedValueRow : OpenClaim := { program := "ytdacfeebidhgnab", sum := "5c8dfa69662064e3eb8367d4f8e2a92fef3388384bcc8678854cbe15e7d704f0", func := "loop.example/failingnets/laws.FnPaintedValue", spec := "fnPaintedValue", unfollowed := true, recurses := true, apart := false }
def FnPaintedValueSaid : Prop := fnPaintedValueRow.holds Try.pinned (OpenSpec.ofChange fnPaintedValueSpec)

/-- ITS FALSE NEIGHBOUR: 'it returns false'. Refute it at one input. -/
def fnPaintedValueWrong : ChangeSpec := { name := "fnPaintedValue", fn := fun _ => fun
  | [d] => { results := [.lit (.bool false)], args := [d] }
  | _ => none }
def FnPaintedValueWrongFalsely : Prop := fnPaintedValueRow.holds Try.pinned (OpenSpec.ofChange fnPaintedValueWrong)

/-- 'laws.FnFlowsValue': WHATEVER THE INPUT: true; the input reads as it did. -/
def fnFlowsValueSpec : ChangeSpec := { name := "fnFlowsValue", fn := fun _ => fun
  | [d] => { results := [.lit (.bool true)], args := [d] }
  | _ => none }
def fnFlowsValueRow : OpenClaim := { program := "ytdacfeebidhgnab", sum := "5c8dfa69662064e3eb8367d4f8e2a92fef3388384bcc8678854cbe15e7d704f0", func := "loop.example/failingnets/laws.FnFlowsValue", spec := "fnFlowsValue", unfollowed := true, recurses := true, apart := false }
def FnFlowsValueSaid : Prop := fnFlowsValueRow.holds Try.pinned (OpenSpec.ofChange fnFlowsValueSpec)

/-- ITS FALSE NEIGHBOUR: 'it returns false'. Refute it at one input. -/
def fnFlowsValueWrong : ChangeSpec := { name := "fnFlowsValue", fn := fun _ => fun
  | [d] => { results := [.lit (.bool false)], args := [d] }
  | _ => none }
def FnFlowsValueWrongFalsely : Prop := fnFlowsValueRow.holds Try.pinned (OpenSpec.ofChange fnFlowsValueWrong)

/-- 'laws.FnWholeValue': WHATEVER THE INPUT: true; the input reads as it did. -/
def fnWholeValueSpec : ChangeSpec := { name := "fnWholeValue", fn := fun _ => fun
  | [d] => { results := [.lit (.bool true)], args := [d] }
  | _ => none }
def fnWholeValueRow : OpenClaim := { program := "ytdacfeebidhgnab", sum := "5c8dfa69662064e3eb8367d4f8e2a92fef3388384bcc8678854cbe15e7d704f0", func := "loop.example/failingnets/laws.FnWholeValue", spec := "fnWholeValue", unfollowed := true, recurses := true, apart := false }
def FnWholeValueSaid : Prop := fnWholeValueRow.holds Try.pinned (OpenSpec.ofChange fnWholeValueSpec)

/-- ITS FALSE NEIGHBOUR: 'it returns false'. Refute it at one input. -/
def fnWholeValueWrong : ChangeSpec := { name := "fnWholeValue", fn := fun _ => fun
  | [d] => { results := [.lit (.bool false)], args := [d] }
  | _ => none }
def FnWholeValueWrongFalsely : Prop := fnWholeValueRow.holds Try.pinned (OpenSpec.ofChange fnWholeValueWrong)

/-- 'laws.FnWeightsOk': WHATEVER THE INPUT: true; the input reads as it did. -/
def fnWeightsOkSpec : ChangeSpec := { name := "fnWeightsOk", fn := fun _ => fun
  | [d] => { results := [.lit (.bool true)], args := [d] }
  | _ => none }
def fnWeightsOkRow : OpenClaim := { program := "ytdacfeebidhgnab", sum := "5c8dfa69662064e3eb8367d4f8e2a92fef3388384bcc8678854cbe15e7d704f0", func := "loop.example/failingnets/laws.FnWeightsOk", spec := "fnWeightsOk", unfollowed := true, recurses := true, apart := false }
def FnWeightsOkSaid : Prop := fnWeightsOkRow.holds Try.pinned (OpenSpec.ofChange fnWeightsOkSpec)

/-- ITS FALSE NEIGHBOUR: 'it returns false'. Refute it at one input. -/
def fnWeightsOkWrong : ChangeSpec := { name := "fnWeightsOk", fn := fun _ => fun
  | [d] => { results := [.lit (.bool false)], args := [d] }
  | _ => none }
def FnWeightsOkWrongFalsely : Prop := fnWeightsOkRow.holds Try.pinned (OpenSpec.ofChange fnWeightsOkWrong)

/-- 'laws.FnExactTableOf': WHATEVER THE INPUT: true; the input reads as it did. -/
def fnExactTableOfSpec : ChangeSpec := { name := "fnExactTableOf", fn := fun _ => fun
  | [d] => { results := [.lit (.bool true)], args := [d] }
  | _ => none }
def fnExactTableOfRow : OpenClaim := { program := "ytdacfeebidhgnab", sum := "5c8dfa69662064e3eb8367d4f8e2a92fef3388384bcc8678854cbe15e7d704f0", func := "loop.example/failingnets/laws.FnExactTableOf", spec := "fnExactTableOf", unfollowed := true, recurses := true, apart := false }
def FnExactTableOfSaid : Prop := fnExactTableOfRow.holds Try.pinned (OpenSpec.ofChange fnExactTableOfSpec)

/-- ITS FALSE NEIGHBOUR: 'it returns false'. Refute it at one input. -/
def fnExactTableOfWrong : ChangeSpec := { name := "fnExactTableOf", fn := fun _ => fun
  | [d] => { results := [.lit (.bool false)], args := [d] }
  | _ => none }
def FnExactTableOfWrongFalsely : Prop := fnExactTableOfRow.holds Try.pinned (OpenSpec.ofChange fnExactTableOfWrong)

/-- 'laws.FnTableOf': WHATEVER THE INPUT: true; the input reads as it did. -/
def fnTableOfSpec : ChangeSpec := { name := "fnTableOf", fn := fun _ => fun
  | [d] => { results := [.lit (.bool true)], args := [d] }
  | _ => none }
def fnTableOfRow : OpenClaim := { program := "ytdacfeebidhgnab", sum := "5c8dfa69662064e3eb8367d4f8e2a92fef3388384bcc8678854cbe15e7d704f0", func := "loop.example/failingnets/laws.FnTableOf", spec := "fnTableOf", unfollowed := true, recurses := true, apart := false }
def FnTableOfSaid : Prop := fnTableOfRow.holds Try.pinned (OpenSpec.ofChange fnTableOfSpec)

/-- ITS FALSE NEIGHBOUR: 'it returns false'. Refute it at one input. -/
def fnTableOfWrong : ChangeSpec := { name := "fnTableOf", fn := fun _ => fun
  | [d] => { results := [.lit (.bool false)], args := [d] }
  | _ => none }
def FnTableOfWrongFalsely : Prop := fnTableOfRow.holds Try.pinned (OpenSpec.ofChange fnTableOfWrong)

/-- 'laws.FnExactFoldOf': WHATEVER THE INPUT: true; the input reads as it did. -/
def fnExactFoldOfSpec : ChangeSpec := { name := "fnExactFoldOf", fn := fun _ => fun
  | [d] => { results := [.lit (.bool true)], args := [d] }
  | _ => none }
def fnExactFoldOfRow : OpenClaim := { program := "ytdacfeebidhgnab", sum := "5c8dfa69662064e3eb8367d4f8e2a92fef3388384bcc8678854cbe15e7d704f0", func := "loop.example/failingnets/laws.FnExactFoldOf", spec := "fnExactFoldOf", unfollowed := true, recurses := true, apart := false }
def FnExactFoldOfSaid : Prop := fnExactFoldOfRow.holds Try.pinned (OpenSpec.ofChange fnExactFoldOfSpec)

/-- ITS FALSE NEIGHBOUR: 'it returns false'. Refute it at one input. -/
def fnExactFoldOfWrong : ChangeSpec := { name := "fnExactFoldOf", fn := fun _ => fun
  | [d] => { results := [.lit (.bool false)], args := [d] }
  | _ => none }
def FnExactFoldOfWrongFalsely : Prop := fnExactFoldOfRow.holds Try.pinned (OpenSpec.ofChange fnExactFoldOfWrong)

/-- 'laws.FnFoldOf': WHATEVER THE INPUT: true; the input reads as it did. -/
def fnFoldOfSpec : ChangeSpec := { name := "fnFoldOf", fn := fun _ => fun
  | [d] => { results := [.lit (.bool true)], args := [d] }
  | _ => none }
def fnFoldOfRow : OpenClaim := { program := "ytdacfeebidhgnab", sum := "5c8dfa69662064e3eb8367d4f8e2a92fef3388384bcc8678854cbe15e7d704f0", func := "loop.example/failingnets/laws.FnFoldOf", spec := "fnFoldOf", unfollowed := true, recurses := true, apart := false }
def FnFoldOfSaid : Prop := fnFoldOfRow.holds Try.pinned (OpenSpec.ofChange fnFoldOfSpec)

/-- ITS FALSE NEIGHBOUR: 'it returns false'. Refute it at one input. -/
def fnFoldOfWrong : ChangeSpec := { name := "fnFoldOf", fn := fun _ => fun
  | [d] => { results := [.lit (.bool false)], args := [d] }
  | _ => none }
def FnFoldOfWrongFalsely : Prop := fnFoldOfRow.holds Try.pinned (OpenSpec.ofChange fnFoldOfWrong)

/- THE SECOND FORM. 'bulk': how many values and letters a reading holds, each counted each time it is reached (what is shared counts as often as it is met; a slice's spare places count too). A statement '..UptoSaid' is the law's where the arguments, and the package variables that the reading takes, are together of bulk at most 1048576: NARROWER than '..Said'. Prove '..Said' where nothing that the law and all that it calls make is longer than what came in: it says more and counts as full. Else prove '..UptoSaid'. A law counts once. -/
mutual
def uptoBulk {H : Type} : DataW H → Nat
  | .lit (.string bytes) => bytes.length + 1
  | .lit _ => 1
  | .nil => 1
  | .ptr d => uptoBulk d + 1
  | .slice elems spare => uptoBulkAll elems + uptoBulkAll spare + 1
  | .agg parts => uptoBulkAll parts + 1
  | .iface _ d => uptoBulk d + 1
  | .map entries => uptoBulkEntries entries + 1
  | .held _ => 1
def uptoBulkAll {H : Type} : List (DataW H) → Nat
  | [] => 0
  | d :: r => uptoBulk d + uptoBulkAll r
def uptoBulkEntries {H : Type} : List (Lit × DataW H) → Nat
  | [] => 0
  | x :: r => uptoBulkEntry x + uptoBulkEntries r
def uptoBulkEntry {H : Type} : Lit × DataW H → Nat
  | (.string bytes, d) => bytes.length + uptoBulk d + 1
  | (_, d) => uptoBulk d + 1
 end
def uptoSmall : (H : Type) → List (DataW H) → Bool := fun _ ds => decide (uptoBulkAll ds ≤ 1048576)
def OpenSpec.upto (s : _root_.Go.ChangeSpec) : _root_.Go.OpenSpec := { _root_.Go.OpenSpec.ofChange s with cond := some uptoSmall }

/-- 'laws.FnByStates', WHERE WHAT IT READS IS OF BULK AT MOST 1048576: true; the input reads as it did. -/
def fnByStatesUptoRow : OpenClaim := { program := "ytdacfeebidhgnab", sum := "5c8dfa69662064e3eb8367d4f8e2a92fef3388384bcc8678854cbe15e7d704f0", func := "loop.example/failingnets/laws.FnByStates", spec := "fnByStates", unfollowed := true, recurses := true, apart := false, narrowed := true }
def FnByStatesUptoSaid : Prop := fnByStatesUptoRow.holds Try.pinned (OpenSpec.upto fnByStatesSpec)

/-- 'laws.FnByBases', WHERE WHAT IT READS IS OF BULK AT MOST 1048576: true; the input reads as it did. -/
def fnByBasesUptoRow : OpenClaim := { program := "ytdacfeebidhgnab", sum := "5c8dfa69662064e3eb8367d4f8e2a92fef3388384bcc8678854cbe15e7d704f0", func := "loop.example/failingnets/laws.FnByBases", spec := "fnByBases", unfollowed := true, recurses := true, apart := false, narrowed := true }
def FnByBasesUptoSaid : Prop := fnByBasesUptoRow.holds Try.pinned (OpenSpec.upto fnByBasesSpec)

/-- 'laws.FnByEdges', WHERE WHAT IT READS IS OF BULK AT MOST 1048576: true; the input reads as it did. -/
def fnByEdgesUptoRow : OpenClaim := { program := "ytdacfeebidhgnab", sum := "5c8dfa69662064e3eb8367d4f8e2a92fef3388384bcc8678854cbe15e7d704f0", func := "loop.example/failingnets/laws.FnByEdges", spec := "fnByEdges", unfollowed := true, recurses := true, apart := false, narrowed := true }
def FnByEdgesUptoSaid : Prop := fnByEdgesUptoRow.holds Try.pinned (OpenSpec.upto fnByEdgesSpec)

/-- 'laws.FnCountAllBack', WHERE WHAT IT READS IS OF BULK AT MOST 1048576: true; the input reads as it did. -/
def fnCountAllBackUptoRow : OpenClaim := { program := "ytdacfeebidhgnab", sum := "5c8dfa69662064e3eb8367d4f8e2a92fef3388384bcc8678854cbe15e7d704f0", func := "loop.example/failingnets/laws.FnCountAllBack", spec := "fnCountAllBack", unfollowed := true, recurses := true, apart := false, narrowed := true }
def FnCountAllBackUptoSaid : Prop := fnCountAllBackUptoRow.holds Try.pinned (OpenSpec.upto fnCountAllBackSpec)

/-- 'laws.FnPaintedValue', WHERE WHAT IT READS IS OF BULK AT MOST 1048576: true; the input reads as it did. -/
def fnPaintedValueUptoRow : OpenClaim := { program := "ytdacfeebidhgnab", sum := "5c8dfa69662064e3eb8367d4f8e2a92fef3388384bcc8678854cbe15e7d704f0", func := "loop.example/failingnets/laws.FnPaintedValue", spec := "fnPaintedValue", unfollowed := true, recurses := true, apart := false, narrowed := true }
def FnPaintedValueUptoSaid : Prop := fnPaintedValueUptoRow.holds Try.pinned (OpenSpec.upto fnPaintedValueSpec)

/-- 'laws.FnFlowsValue', WHERE WHAT IT READS IS OF BULK AT MOST 1048576: true; the input reads as it did. -/
def fnFlowsValueUptoRow : OpenClaim := { program := "ytdacfeebidhgnab", sum := "5c8dfa69662064e3eb8367d4f8e2a92fef3388384bcc8678854cbe15e7d704f0", func := "loop.example/failingnets/laws.FnFlowsValue", spec := "fnFlowsValue", unfollowed := true, recurses := true, apart := false, narrowed := true }
def FnFlowsValueUptoSaid : Prop := fnFlowsValueUptoRow.holds Try.pinned (OpenSpec.upto fnFlowsValueSpec)

/-- 'laws.FnWholeValue', WHERE WHAT IT READS IS OF BULK AT MOST 1048576: true; the input reads as it did. -/
def fnWholeValueUptoRow : OpenClaim := { program := "ytdacfeebidhgnab", sum := "5c8dfa69662064e3eb8367d4f8e2a92fef3388384bcc8678854cbe15e7d704f0", func := "loop.example/failingnets/laws.FnWholeValue", spec := "fnWholeValue", unfollowed := true, recurses := true, apart := false, narrowed := true }
def FnWholeValueUptoSaid : Prop := fnWholeValueUptoRow.holds Try.pinned (OpenSpec.upto fnWholeValueSpec)

/-- 'laws.FnWeightsOk', WHERE WHAT IT READS IS OF BULK AT MOST 1048576: true; the input reads as it did. -/
def fnWeightsOkUptoRow : OpenClaim := { program := "ytdacfeebidhgnab", sum := "5c8dfa69662064e3eb8367d4f8e2a92fef3388384bcc8678854cbe15e7d704f0", func := "loop.example/failingnets/laws.FnWeightsOk", spec := "fnWeightsOk", unfollowed := true, recurses := true, apart := false, narrowed := true }
def FnWeightsOkUptoSaid : Prop := fnWeightsOkUptoRow.holds Try.pinned (OpenSpec.upto fnWeightsOkSpec)

/-- 'laws.FnExactTableOf', WHERE WHAT IT READS IS OF BULK AT MOST 1048576: true; the input reads as it did. -/
def fnExactTableOfUptoRow : OpenClaim := { program := "ytdacfeebidhgnab", sum := "5c8dfa69662064e3eb8367d4f8e2a92fef3388384bcc8678854cbe15e7d704f0", func := "loop.example/failingnets/laws.FnExactTableOf", spec := "fnExactTableOf", unfollowed := true, recurses := true, apart := false, narrowed := true }
def FnExactTableOfUptoSaid : Prop := fnExactTableOfUptoRow.holds Try.pinned (OpenSpec.upto fnExactTableOfSpec)

/-- 'laws.FnTableOf', WHERE WHAT IT READS IS OF BULK AT MOST 1048576: true; the input reads as it did. -/
def fnTableOfUptoRow : OpenClaim := { program := "ytdacfeebidhgnab", sum := "5c8dfa69662064e3eb8367d4f8e2a92fef3388384bcc8678854cbe15e7d704f0", func := "loop.example/failingnets/laws.FnTableOf", spec := "fnTableOf", unfollowed := true, recurses := true, apart := false, narrowed := true }
def FnTableOfUptoSaid : Prop := fnTableOfUptoRow.holds Try.pinned (OpenSpec.upto fnTableOfSpec)

/-- 'laws.FnExactFoldOf', WHERE WHAT IT READS IS OF BULK AT MOST 1048576: true; the input reads as it did. -/
def fnExactFoldOfUptoRow : OpenClaim := { program := "ytdacfeebidhgnab", sum := "5c8dfa69662064e3eb8367d4f8e2a92fef3388384bcc8678854cbe15e7d704f0", func := "loop.example/failingnets/laws.FnExactFoldOf", spec := "fnExactFoldOf", unfollowed := true, recurses := true, apart := false, narrowed := true }
def FnExactFoldOfUptoSaid : Prop := fnExactFoldOfUptoRow.holds Try.pinned (OpenSpec.upto fnExactFoldOfSpec)

/-- 'laws.FnFoldOf', WHERE WHAT IT READS IS OF BULK AT MOST 1048576: true; the input reads as it did. -/
def fnFoldOfUptoRow : OpenClaim := { program := "ytdacfeebidhgnab", sum := "5c8dfa69662064e3eb8367d4f8e2a92fef3388384bcc8678854cbe15e7d704f0", func := "loop.example/failingnets/laws.FnFoldOf", spec := "fnFoldOf", unfollowed := true, recurses := true, apart := false, narrowed := true }
def FnFoldOfUptoSaid : Prop := fnFoldOfUptoRow.holds Try.pinned (OpenSpec.upto fnFoldOfSpec)

end Rows
end Go.Proofs.Ytdacfeebidhgnab
