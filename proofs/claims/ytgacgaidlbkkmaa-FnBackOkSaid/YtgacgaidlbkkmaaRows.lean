/-
  No cell of these rows narrows 'for every input' (looked for: loops, veiled, ifaces, maps, wideKeys, modest, calm, conditions, laid).
  DERIVED. THE GIVEN ROWS OF THIS SEAT. 12 by the template 'for every input the law returns true; each argument reads behind the call as it read before'; 0 by the template 'total and deterministic' (their statements: YtgacgaidlbkkmaaTotals.lean).
  GIVEN WITH THE SEED: the statements are not yours to turn. If you find one false, say at which input.
  Laid BY PROGRAM, IN A SANDBOX (cutbox-rows.mjs): the forced cells as the released guide's own fill.sh prints them over the translation 16b9bcfa657323dd… (all of the seat's roots in one cut). By AI agents, Wed Nov 11 2026. No macro, syntax, notation, axiom, sorry.
-/
import Derived.Test.YtgacgaidlbkkmaaChecked
import GoSem.Claim
import GoSem.ClaimJoined
import GoSem.ClaimMapViews
import Derived.JoinedTies
import Derived.KernelRfl
namespace Go.Proofs.Ytgacgaidlbkkmaa
/- THE CELL 'sum', in the pinned program and in every row, IS THE sha256 OF THE DUMP (.gsa) THAT YtgacgaidlbkkmaaProg.lean LOADS. Nothing in Lean hashes anything: it is a label: what it is worth is what the hold of that sum in a sandbox is worth. -/
noncomputable def Try.pinned : Pinned := { name := "ytgacgaidlbkkmaa", sum := "16b9bcfa657323ddcff99db04119bb04bda00b22b61391e50107467c4646dff2", checked := Try.checked }
namespace Rows
def none {H : Type} : Left H := { results := [], args := [] }

/-- 'laws.FnCountPainted': WHATEVER THE INPUT: true; the input reads as it did. -/
def fnCountPaintedSpec : ChangeSpec := { name := "fnCountPainted", fn := fun _ => fun
  | [d] => { results := [.lit (.bool true)], args := [d] }
  | _ => none }
def fnCountPaintedRow : OpenClaim := { program := "ytgacgaidlbkkmaa", sum := "16b9bcfa657323ddcff99db04119bb04bda00b22b61391e50107467c4646dff2", func := "loop.example/failingnets/laws.FnCountPainted", spec := "fnCountPainted", unfollowed := true, recurses := true, apart := false }
def FnCountPaintedSaid : Prop := fnCountPaintedRow.holds Try.pinned (OpenSpec.ofChange fnCountPaintedSpec)

/-- ITS FALSE NEIGHBOUR: 'it returns false'. Refute it at one input. -/
def fnCountPaintedWrong : ChangeSpec := { name := "fnCountPainted", fn := fun _ => fun
  | [d] => { results := [.lit (.bool false)], args := [d] }
  | _ => none }
def FnCountPaintedWrongFalsely : Prop := fnCountPaintedRow.holds Try.pinned (OpenSpec.ofChange fnCountPaintedWrong)

/-- 'laws.FnPaintedSum': WHATEVER THE INPUT: true; the input reads as it did. -/
def fnPaintedSumSpec : ChangeSpec := { name := "fnPaintedSum", fn := fun _ => fun
  | [d] => { results := [.lit (.bool true)], args := [d] }
  | _ => none }
def fnPaintedSumRow : OpenClaim := { program := "ytgacgaidlbkkmaa", sum := "16b9bcfa657323ddcff99db04119bb04bda00b22b61391e50107467c4646dff2", func := "loop.example/failingnets/laws.FnPaintedSum", spec := "fnPaintedSum", unfollowed := true, recurses := true, apart := false }
def FnPaintedSumSaid : Prop := fnPaintedSumRow.holds Try.pinned (OpenSpec.ofChange fnPaintedSumSpec)

/-- ITS FALSE NEIGHBOUR: 'it returns false'. Refute it at one input. -/
def fnPaintedSumWrong : ChangeSpec := { name := "fnPaintedSum", fn := fun _ => fun
  | [d] => { results := [.lit (.bool false)], args := [d] }
  | _ => none }
def FnPaintedSumWrongFalsely : Prop := fnPaintedSumRow.holds Try.pinned (OpenSpec.ofChange fnPaintedSumWrong)

/-- 'laws.FnBackOk': WHATEVER THE INPUT: true; the input reads as it did. -/
def fnBackOkSpec : ChangeSpec := { name := "fnBackOk", fn := fun _ => fun
  | [d] => { results := [.lit (.bool true)], args := [d] }
  | _ => none }
def fnBackOkRow : OpenClaim := { program := "ytgacgaidlbkkmaa", sum := "16b9bcfa657323ddcff99db04119bb04bda00b22b61391e50107467c4646dff2", func := "loop.example/failingnets/laws.FnBackOk", spec := "fnBackOk", apart := false }
def FnBackOkSaid : Prop := fnBackOkRow.holds Try.pinned (OpenSpec.ofChange fnBackOkSpec)

/-- ITS FALSE NEIGHBOUR: 'it returns false'. Refute it at one input. -/
def fnBackOkWrong : ChangeSpec := { name := "fnBackOk", fn := fun _ => fun
  | [d] => { results := [.lit (.bool false)], args := [d] }
  | _ => none }
def FnBackOkWrongFalsely : Prop := fnBackOkRow.holds Try.pinned (OpenSpec.ofChange fnBackOkWrong)

/-- 'laws.FnCountNoBack': WHATEVER THE INPUT: true; the input reads as it did. -/
def fnCountNoBackSpec : ChangeSpec := { name := "fnCountNoBack", fn := fun _ => fun
  | [d] => { results := [.lit (.bool true)], args := [d] }
  | _ => none }
def fnCountNoBackRow : OpenClaim := { program := "ytgacgaidlbkkmaa", sum := "16b9bcfa657323ddcff99db04119bb04bda00b22b61391e50107467c4646dff2", func := "loop.example/failingnets/laws.FnCountNoBack", spec := "fnCountNoBack", unfollowed := true, recurses := true, apart := false }
def FnCountNoBackSaid : Prop := fnCountNoBackRow.holds Try.pinned (OpenSpec.ofChange fnCountNoBackSpec)

/-- ITS FALSE NEIGHBOUR: 'it returns false'. Refute it at one input. -/
def fnCountNoBackWrong : ChangeSpec := { name := "fnCountNoBack", fn := fun _ => fun
  | [d] => { results := [.lit (.bool false)], args := [d] }
  | _ => none }
def FnCountNoBackWrongFalsely : Prop := fnCountNoBackRow.holds Try.pinned (OpenSpec.ofChange fnCountNoBackWrong)

/-- 'laws.FnCountFlows': WHATEVER THE INPUT: true; the input reads as it did. -/
def fnCountFlowsSpec : ChangeSpec := { name := "fnCountFlows", fn := fun _ => fun
  | [d] => { results := [.lit (.bool true)], args := [d] }
  | _ => none }
def fnCountFlowsRow : OpenClaim := { program := "ytgacgaidlbkkmaa", sum := "16b9bcfa657323ddcff99db04119bb04bda00b22b61391e50107467c4646dff2", func := "loop.example/failingnets/laws.FnCountFlows", spec := "fnCountFlows", unfollowed := true, recurses := true, apart := false }
def FnCountFlowsSaid : Prop := fnCountFlowsRow.holds Try.pinned (OpenSpec.ofChange fnCountFlowsSpec)

/-- ITS FALSE NEIGHBOUR: 'it returns false'. Refute it at one input. -/
def fnCountFlowsWrong : ChangeSpec := { name := "fnCountFlows", fn := fun _ => fun
  | [d] => { results := [.lit (.bool false)], args := [d] }
  | _ => none }
def FnCountFlowsWrongFalsely : Prop := fnCountFlowsRow.holds Try.pinned (OpenSpec.ofChange fnCountFlowsWrong)

/-- 'laws.FnFlowsSum': WHATEVER THE INPUT: true; the input reads as it did. -/
def fnFlowsSumSpec : ChangeSpec := { name := "fnFlowsSum", fn := fun _ => fun
  | [d] => { results := [.lit (.bool true)], args := [d] }
  | _ => none }
def fnFlowsSumRow : OpenClaim := { program := "ytgacgaidlbkkmaa", sum := "16b9bcfa657323ddcff99db04119bb04bda00b22b61391e50107467c4646dff2", func := "loop.example/failingnets/laws.FnFlowsSum", spec := "fnFlowsSum", unfollowed := true, recurses := true, apart := false }
def FnFlowsSumSaid : Prop := fnFlowsSumRow.holds Try.pinned (OpenSpec.ofChange fnFlowsSumSpec)

/-- ITS FALSE NEIGHBOUR: 'it returns false'. Refute it at one input. -/
def fnFlowsSumWrong : ChangeSpec := { name := "fnFlowsSum", fn := fun _ => fun
  | [d] => { results := [.lit (.bool false)], args := [d] }
  | _ => none }
def FnFlowsSumWrongFalsely : Prop := fnFlowsSumRow.holds Try.pinned (OpenSpec.ofChange fnFlowsSumWrong)

/-- 'laws.FnExactCountPainted': WHATEVER THE INPUT: true; the input reads as it did. -/
def fnExactCountPaintedSpec : ChangeSpec := { name := "fnExactCountPainted", fn := fun _ => fun
  | [d1, d2] => { results := [.lit (.bool true)], args := [d1, d2] }
  | _ => none }
def fnExactCountPaintedRow : OpenClaim := { program := "ytgacgaidlbkkmaa", sum := "16b9bcfa657323ddcff99db04119bb04bda00b22b61391e50107467c4646dff2", func := "loop.example/failingnets/laws.FnExactCountPainted", spec := "fnExactCountPainted", unfollowed := true, recurses := true, apart := false }
def FnExactCountPaintedSaid : Prop := fnExactCountPaintedRow.holds Try.pinned (OpenSpec.ofChange fnExactCountPaintedSpec)

/-- ITS FALSE NEIGHBOUR: 'it returns false'. Refute it at one input. -/
def fnExactCountPaintedWrong : ChangeSpec := { name := "fnExactCountPainted", fn := fun _ => fun
  | [d1, d2] => { results := [.lit (.bool false)], args := [d1, d2] }
  | _ => none }
def FnExactCountPaintedWrongFalsely : Prop := fnExactCountPaintedRow.holds Try.pinned (OpenSpec.ofChange fnExactCountPaintedWrong)

/-- 'laws.FnExactPaintedSum': WHATEVER THE INPUT: true; the input reads as it did. -/
def fnExactPaintedSumSpec : ChangeSpec := { name := "fnExactPaintedSum", fn := fun _ => fun
  | [d1, d2] => { results := [.lit (.bool true)], args := [d1, d2] }
  | _ => none }
def fnExactPaintedSumRow : OpenClaim := { program := "ytgacgaidlbkkmaa", sum := "16b9bcfa657323ddcff99db04119bb04bda00b22b61391e50107467c4646dff2", func := "loop.example/failingnets/laws.FnExactPaintedSum", spec := "fnExactPaintedSum", unfollowed := true, recurses := true, apart := false }
def FnExactPaintedSumSaid : Prop := fnExactPaintedSumRow.holds Try.pinned (OpenSpec.ofChange fnExactPaintedSumSpec)

/-- ITS FALSE NEIGHBOUR: 'it returns false'. Refute it at one input. -/
def fnExactPaintedSumWrong : ChangeSpec := { name := "fnExactPaintedSum", fn := fun _ => fun
  | [d1, d2] => { results := [.lit (.bool false)], args := [d1, d2] }
  | _ => none }
def FnExactPaintedSumWrongFalsely : Prop := fnExactPaintedSumRow.holds Try.pinned (OpenSpec.ofChange fnExactPaintedSumWrong)

/-- 'laws.FnExactBackOk': WHATEVER THE INPUT: true; the input reads as it did. -/
def fnExactBackOkSpec : ChangeSpec := { name := "fnExactBackOk", fn := fun _ => fun
  | [d1, d2] => { results := [.lit (.bool true)], args := [d1, d2] }
  | _ => none }
def fnExactBackOkRow : OpenClaim := { program := "ytgacgaidlbkkmaa", sum := "16b9bcfa657323ddcff99db04119bb04bda00b22b61391e50107467c4646dff2", func := "loop.example/failingnets/laws.FnExactBackOk", spec := "fnExactBackOk", apart := false }
def FnExactBackOkSaid : Prop := fnExactBackOkRow.holds Try.pinned (OpenSpec.ofChange fnExactBackOkSpec)

/-- ITS FALSE NEIGHBOUR: 'it returns false'. Refute it at one input. -/
def fnExactBackOkWrong : ChangeSpec := { name := "fnExactBackOk", fn := fun _ => fun
  | [d1, d2] => { results := [.lit (.bool false)], args := [d1, d2] }
  | _ => none }
def FnExactBackOkWrongFalsely : Prop := fnExactBackOkRow.holds Try.pinned (OpenSpec.ofChange fnExactBackOkWrong)

/-- 'laws.FnExactCountNoBack': WHATEVER THE INPUT: true; the input reads as it did. -/
def fnExactCountNoBackSpec : ChangeSpec := { name := "fnExactCountNoBack", fn := fun _ => fun
  | [d] => { results := [.lit (.bool true)], args := [d] }
  | _ => none }
def fnExactCountNoBackRow : OpenClaim := { program := "ytgacgaidlbkkmaa", sum := "16b9bcfa657323ddcff99db04119bb04bda00b22b61391e50107467c4646dff2", func := "loop.example/failingnets/laws.FnExactCountNoBack", spec := "fnExactCountNoBack", unfollowed := true, recurses := true, apart := false }
def FnExactCountNoBackSaid : Prop := fnExactCountNoBackRow.holds Try.pinned (OpenSpec.ofChange fnExactCountNoBackSpec)

/-- ITS FALSE NEIGHBOUR: 'it returns false'. Refute it at one input. -/
def fnExactCountNoBackWrong : ChangeSpec := { name := "fnExactCountNoBack", fn := fun _ => fun
  | [d] => { results := [.lit (.bool false)], args := [d] }
  | _ => none }
def FnExactCountNoBackWrongFalsely : Prop := fnExactCountNoBackRow.holds Try.pinned (OpenSpec.ofChange fnExactCountNoBackWrong)

/-- 'laws.FnExactCountFlows': WHATEVER THE INPUT: true; the input reads as it did. -/
def fnExactCountFlowsSpec : ChangeSpec := { name := "fnExactCountFlows", fn := fun _ => fun
  | [d1, d2] => { results := [.lit (.bool true)], args := [d1, d2] }
  | _ => none }
def fnExactCountFlowsRow : OpenClaim := { program := "ytgacgaidlbkkmaa", sum := "16b9bcfa657323ddcff99db04119bb04bda00b22b61391e50107467c4646dff2", func := "loop.example/failingnets/laws.FnExactCountFlows", spec := "fnExactCountFlows", unfollowed := true, recurses := true, apart := false }
def FnExactCountFlowsSaid : Prop := fnExactCountFlowsRow.holds Try.pinned (OpenSpec.ofChange fnExactCountFlowsSpec)

/-- ITS FALSE NEIGHBOUR: 'it returns false'. Refute it at one input. -/
def fnExactCountFlowsWrong : ChangeSpec := { name := "fnExactCountFlows", fn := fun _ => fun
  | [d1, d2] => { results := [.lit (.bool false)], args := [d1, d2] }
  | _ => none }
def FnExactCountFlowsWrongFalsely : Prop := fnExactCountFlowsRow.holds Try.pinned (OpenSpec.ofChange fnExactCountFlowsWrong)

/-- 'laws.FnExactFlowsSum': WHATEVER THE INPUT: true; the input reads as it did. -/
def fnExactFlowsSumSpec : ChangeSpec := { name := "fnExactFlowsSum", fn := fun _ => fun
  | [d1, d2] => { results := [.lit (.bool true)], args := [d1, d2] }
  | _ => none }
def fnExactFlowsSumRow : OpenClaim := { program := "ytgacgaidlbkkmaa", sum := "16b9bcfa657323ddcff99db04119bb04bda00b22b61391e50107467c4646dff2", func := "loop.example/failingnets/laws.FnExactFlowsSum", spec := "fnExactFlowsSum", unfollowed := true, recurses := true, apart := false }
def FnExactFlowsSumSaid : Prop := fnExactFlowsSumRow.holds Try.pinned (OpenSpec.ofChange fnExactFlowsSumSpec)

/-- ITS FALSE NEIGHBOUR: 'it returns false'. Refute it at one input. -/
def fnExactFlowsSumWrong : ChangeSpec := { name := "fnExactFlowsSum", fn := fun _ => fun
  | [d1, d2] => { results := [.lit (.bool false)], args := [d1, d2] }
  | _ => none }
def FnExactFlowsSumWrongFalsely : Prop := fnExactFlowsSumRow.holds Try.pinned (OpenSpec.ofChange fnExactFlowsSumWrong)

/- THE SECOND FORM. 'bulk': how many values and letters a reading holds, each counted each time it is reached (what is shared counts as often as it is met; a slice's spare places count too). A statement '..UptoSaid' is the law's where the arguments, and the package variables that the reading takes, are together of bulk at most 1048576: NARROWER than '..Said'. Prove '..Said' where nothing that the law and all that it calls make is longer than what came in: it says more and counts as full. Else prove '..UptoSaid'. A law counts once. -/
mutual
def uptoBulk {H : Type} : DataW H → Nat
  | .lit (.string bytes) => bytes.length + 1
  | .lit _ => 1
  | .nil => 1
  | .ptr d => uptoBulk d + 1
  | .slice elems spare => uptoBulkAll elems + uptoBulkAll spare + 1
  | .agg parts => uptoBulkAll parts + 1
  | .iface _ d => uptoBulk d + 1
  | .map entries => uptoBulkEntries entries + 1
  | .held _ => 1
def uptoBulkAll {H : Type} : List (DataW H) → Nat
  | [] => 0
  | d :: r => uptoBulk d + uptoBulkAll r
def uptoBulkEntries {H : Type} : List (Lit × DataW H) → Nat
  | [] => 0
  | x :: r => uptoBulkEntry x + uptoBulkEntries r
def uptoBulkEntry {H : Type} : Lit × DataW H → Nat
  | (.string bytes, d) => bytes.length + uptoBulk d + 1
  | (_, d) => uptoBulk d + 1
 end
def uptoSmall : (H : Type) → List (DataW H) → Bool := fun _ ds => decide (uptoBulkAll ds ≤ 1048576)
def OpenSpec.upto (s : _root_.Go.ChangeSpec) : _root_.Go.OpenSpec := { _root_.Go.OpenSpec.ofChange s with cond := some uptoSmall }

/-- 'laws.FnCountPainted', WHERE WHAT IT READS IS OF BULK AT MOST 1048576: true; the input reads as it did. -/
def fnCountPaintedUptoRow : OpenClaim := { program := "ytgacgaidlbkkmaa", sum := "16b9bcfa657323ddcff99db04119bb04bda00b22b61391e50107467c4646dff2", func := "loop.example/failingnets/laws.FnCountPainted", spec := "fnCountPainted", unfollowed := true, recurses := true, apart := false, narrowed := true }
def FnCountPaintedUptoSaid : Prop := fnCountPaintedUptoRow.holds Try.pinned (OpenSpec.upto fnCountPaintedSpec)

/-- 'laws.FnPaintedSum', WHERE WHAT IT READS IS OF BULK AT MOST 1048576: true; the input reads as it did. -/
def fnPaintedSumUptoRow : OpenClaim := { program := "ytgacgaidlbkkmaa", sum := "16b9bcfa657323ddcff99db04119bb04bda00b22b61391e50107467c4646dff2", func := "loop.example/failingnets/laws.FnPaintedSum", spec := "fnPaintedSum", unfollowed := true, recurses := true, apart := false, narrowed := true }
def FnPaintedSumUptoSaid : Prop := fnPaintedSumUptoRow.holds Try.pinned (OpenSpec.upto fnPaintedSumSpec)

/-- 'laws.FnBackOk', WHERE WHAT IT READS IS OF BULK AT MOST 1048576: true; the input reads as it did. -/
def fnBackOkUptoRow : OpenClaim := { program := "ytgacgaidlbkkmaa", sum := "16b9bcfa657323ddcff99db04119bb04bda00b22b61391e50107467c4646dff2", func := "loop.example/failingnets/laws.FnBackOk", spec := "fnBackOk", apart := false, narrowed := true }
def FnBackOkUptoSaid : Prop := fnBackOkUptoRow.holds Try.pinned (OpenSpec.upto fnBackOkSpec)

/-- 'laws.FnCountNoBack', WHERE WHAT IT READS IS OF BULK AT MOST 1048576: true; the input reads as it did. -/
def fnCountNoBackUptoRow : OpenClaim := { program := "ytgacgaidlbkkmaa", sum := "16b9bcfa657323ddcff99db04119bb04bda00b22b61391e50107467c4646dff2", func := "loop.example/failingnets/laws.FnCountNoBack", spec := "fnCountNoBack", unfollowed := true, recurses := true, apart := false, narrowed := true }
def FnCountNoBackUptoSaid : Prop := fnCountNoBackUptoRow.holds Try.pinned (OpenSpec.upto fnCountNoBackSpec)

/-- 'laws.FnCountFlows', WHERE WHAT IT READS IS OF BULK AT MOST 1048576: true; the input reads as it did. -/
def fnCountFlowsUptoRow : OpenClaim := { program := "ytgacgaidlbkkmaa", sum := "16b9bcfa657323ddcff99db04119bb04bda00b22b61391e50107467c4646dff2", func := "loop.example/failingnets/laws.FnCountFlows", spec := "fnCountFlows", unfollowed := true, recurses := true, apart := false, narrowed := true }
def FnCountFlowsUptoSaid : Prop := fnCountFlowsUptoRow.holds Try.pinned (OpenSpec.upto fnCountFlowsSpec)

/-- 'laws.FnFlowsSum', WHERE WHAT IT READS IS OF BULK AT MOST 1048576: true; the input reads as it did. -/
def fnFlowsSumUptoRow : OpenClaim := { program := "ytgacgaidlbkkmaa", sum := "16b9bcfa657323ddcff99db04119bb04bda00b22b61391e50107467c4646dff2", func := "loop.example/failingnets/laws.FnFlowsSum", spec := "fnFlowsSum", unfollowed := true, recurses := true, apart := false, narrowed := true }
def FnFlowsSumUptoSaid : Prop := fnFlowsSumUptoRow.holds Try.pinned (OpenSpec.upto fnFlowsSumSpec)

/-- 'laws.FnExactCountPainted', WHERE WHAT IT READS IS OF BULK AT MOST 1048576: true; the input reads as it did. -/
def fnExactCountPaintedUptoRow : OpenClaim := { program := "ytgacgaidlbkkmaa", sum := "16b9bcfa657323ddcff99db04119bb04bda00b22b61391e50107467c4646dff2", func := "loop.example/failingnets/laws.FnExactCountPainted", spec := "fnExactCountPainted", unfollowed := true, recurses := true, apart := false, narrowed := true }
def FnExactCountPaintedUptoSaid : Prop := fnExactCountPaintedUptoRow.holds Try.pinned (OpenSpec.upto fnExactCountPaintedSpec)

/-- 'laws.FnExactPaintedSum', WHERE WHAT IT READS IS OF BULK AT MOST 1048576: true; the input reads as it did. -/
def fnExactPaintedSumUptoRow : OpenClaim := { program := "ytgacgaidlbkkmaa", sum := "16b9bcfa657323ddcff99db04119bb04bda00b22b61391e50107467c4646dff2", func := "loop.example/failingnets/laws.FnExactPaintedSum", spec := "fnExactPaintedSum", unfollowed := true, recurses := true, apart := false, narrowed := true }
def FnExactPaintedSumUptoSaid : Prop := fnExactPaintedSumUptoRow.holds Try.pinned (OpenSpec.upto fnExactPaintedSumSpec)

/-- 'laws.FnExactBackOk', WHERE WHAT IT READS IS OF BULK AT MOST 1048576: true; the input reads as it did. -/
def fnExactBackOkUptoRow : OpenClaim := { program := "ytgacgaidlbkkmaa", sum := "16b9bcfa657323ddcff99db04119bb04bda00b22b61391e50107467c4646dff2", func := "loop.example/failingnets/laws.FnExactBackOk", spec := "fnExactBackOk", apart := false, narrowed := true }
def FnExactBackOkUptoSaid : Prop := fnExactBackOkUptoRow.holds Try.pinned (OpenSpec.upto fnExactBackOkSpec)

/-- 'laws.FnExactCountNoBack', WHERE WHAT IT READS IS OF BULK AT MOST 1048576: true; the input reads as it did. -/
def fnExactCountNoBackUptoRow : OpenClaim := { program := "ytgacgaidlbkkmaa", sum := "16b9bcfa657323ddcff99db04119bb04bda00b22b61391e50107467c4646dff2", func := "loop.example/failingnets/laws.FnExactCountNoBack", spec := "fnExactCountNoBack", unfollowed := true, recurses := true, apart := false, narrowed := true }
def FnExactCountNoBackUptoSaid : Prop := fnExactCountNoBackUptoRow.holds Try.pinned (OpenSpec.upto fnExactCountNoBackSpec)

/-- 'laws.FnExactCountFlows', WHERE WHAT IT READS IS OF BULK AT MOST 1048576: true; the input reads as it did. -/
def fnExactCountFlowsUptoRow : OpenClaim := { program := "ytgacgaidlbkkmaa", sum := "16b9bcfa657323ddcff99db04119bb04bda00b22b61391e50107467c4646dff2", func := "loop.example/failingnets/laws.FnExactCountFlows", spec := "fnExactCountFlows", unfollowed := true, recurses := true, apart := false, narrowed := true }
def FnExactCountFlowsUptoSaid : Prop := fnExactCountFlowsUptoRow.holds Try.pinned (OpenSpec.upto fnExactCountFlowsSpec)

/-- 'laws.FnExactFlowsSum', WHERE WHAT IT READS IS OF BULK AT MOST 1048576: true; the input reads as it did. -/
def fnExactFlowsSumUptoRow : OpenClaim := { program := "ytgacgaidlbkkmaa", sum := "16b9bcfa657323ddcff99db04119bb04bda00b22b61391e50107467c4646dff2", func := "loop.example/failingnets/laws.FnExactFlowsSum", spec := "fnExactFlowsSum", unfollowed := true, recurses := true, apart := false, narrowed := true }
def FnExactFlowsSumUptoSaid : Prop := fnExactFlowsSumUptoRow.holds Try.pinned (OpenSpec.upto fnExactFlowsSumSpec)

end Rows
end Go.Proofs.Ytgacgaidlbkkmaa
