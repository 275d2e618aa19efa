/-
  No cell of these rows narrows 'for every input' (looked for: loops, veiled, ifaces, maps, wideKeys, modest, calm, conditions, laid).
  DERIVED. THE GIVEN ROWS OF THIS SEAT. 8 by the template 'for every input the law returns true; each argument reads behind the call as it read before'; 0 by the template 'total and deterministic' (their statements: YtdahpkgbhlkmbaaTotals.lean).
  GIVEN WITH THE SEED: the statements are not yours to turn. If you find one false, say at which input.
  Laid BY PROGRAM, IN A SANDBOX (cutbox-rows.mjs): the forced cells as the released guide's own fill.sh prints them over the translation af0f9248fc696b14… (all of the seat's roots in one cut). By AI agents, Wed Nov 11 2026. No macro, syntax, notation, axiom, sorry.
-/
import Derived.Test.YtdahpkgbhlkmbaaChecked
import GoSem.Claim
import GoSem.ClaimJoined
import GoSem.ClaimMapViews
import Derived.JoinedTies
import Derived.KernelRfl
namespace Go.Proofs.Ytdahpkgbhlkmbaa
/- THE CELL 'sum', in the pinned program and in every row, IS THE sha256 OF THE DUMP (.gsa) THAT YtdahpkgbhlkmbaaProg.lean LOADS. Nothing in Lean hashes anything: it is a label: what it is worth is what the hold of that sum in a sandbox is worth. -/
noncomputable def Try.pinned : Pinned := { name := "ytdahpkgbhlkmbaa", sum := "af0f9248fc696b14f0c31aa4942f4f33bf5f85d3df4154e9d3d8ee058ef91d28", checked := Try.checked }
namespace Rows
def none {H : Type} : Left H := { results := [], args := [] }

/-- 'laws.FnPivotOk': WHATEVER THE INPUT: true; the input reads as it did. -/
def fnPivotOkSpec : ChangeSpec := { name := "fnPivotOk", fn := fun _ => fun
  | [d] => { results := [.lit (.bool true)], args := [d] }
  | _ => none }
def fnPivotOkRow : OpenClaim := { program := "ytdahpkgbhlkmbaa", sum := "af0f9248fc696b14f0c31aa4942f4f33bf5f85d3df4154e9d3d8ee058ef91d28", func := "loop.example/failingnets/laws.FnPivotOk", spec := "fnPivotOk", unfollowed := true, recurses := true, apart := false }
def FnPivotOkSaid : Prop := fnPivotOkRow.holds Try.pinned (OpenSpec.ofChange fnPivotOkSpec)

/-- ITS FALSE NEIGHBOUR: 'it returns false'. Refute it at one input. -/
def fnPivotOkWrong : ChangeSpec := { name := "fnPivotOk", fn := fun _ => fun
  | [d] => { results := [.lit (.bool false)], args := [d] }
  | _ => none }
def FnPivotOkWrongFalsely : Prop := fnPivotOkRow.holds Try.pinned (OpenSpec.ofChange fnPivotOkWrong)

/-- 'laws.FnExactPivotOk': WHATEVER THE INPUT: true; the input reads as it did. -/
def fnExactPivotOkSpec : ChangeSpec := { name := "fnExactPivotOk", fn := fun _ => fun
  | [d1, d2, d3, d4, d5] => { results := [.lit (.bool true)], args := [d1, d2, d3, d4, d5] }
  | _ => none }
def fnExactPivotOkRow : OpenClaim := { program := "ytdahpkgbhlkmbaa", sum := "af0f9248fc696b14f0c31aa4942f4f33bf5f85d3df4154e9d3d8ee058ef91d28", func := "loop.example/failingnets/laws.FnExactPivotOk", spec := "fnExactPivotOk", apart := false }
def FnExactPivotOkSaid : Prop := fnExactPivotOkRow.holds Try.pinned (OpenSpec.ofChange fnExactPivotOkSpec)

/-- ITS FALSE NEIGHBOUR: 'it returns false'. Refute it at one input. -/
def fnExactPivotOkWrong : ChangeSpec := { name := "fnExactPivotOk", fn := fun _ => fun
  | [d1, d2, d3, d4, d5] => { results := [.lit (.bool false)], args := [d1, d2, d3, d4, d5] }
  | _ => none }
def FnExactPivotOkWrongFalsely : Prop := fnExactPivotOkRow.holds Try.pinned (OpenSpec.ofChange fnExactPivotOkWrong)

/-- 'laws.FnPivotCounts': WHATEVER THE INPUT: true; the input reads as it did. -/
def fnPivotCountsSpec : ChangeSpec := { name := "fnPivotCounts", fn := fun _ => fun
  | [d] => { results := [.lit (.bool true)], args := [d] }
  | _ => none }
def fnPivotCountsRow : OpenClaim := { program := "ytdahpkgbhlkmbaa", sum := "af0f9248fc696b14f0c31aa4942f4f33bf5f85d3df4154e9d3d8ee058ef91d28", func := "loop.example/failingnets/laws.FnPivotCounts", spec := "fnPivotCounts", unfollowed := true, recurses := true, apart := false }
def FnPivotCountsSaid : Prop := fnPivotCountsRow.holds Try.pinned (OpenSpec.ofChange fnPivotCountsSpec)

/-- ITS FALSE NEIGHBOUR: 'it returns false'. Refute it at one input. -/
def fnPivotCountsWrong : ChangeSpec := { name := "fnPivotCounts", fn := fun _ => fun
  | [d] => { results := [.lit (.bool false)], args := [d] }
  | _ => none }
def FnPivotCountsWrongFalsely : Prop := fnPivotCountsRow.holds Try.pinned (OpenSpec.ofChange fnPivotCountsWrong)

/-- 'laws.FnExactPivotCounts': WHATEVER THE INPUT: true; the input reads as it did. -/
def fnExactPivotCountsSpec : ChangeSpec := { name := "fnExactPivotCounts", fn := fun _ => fun
  | [d1, d2, d3, d4] => { results := [.lit (.bool true)], args := [d1, d2, d3, d4] }
  | _ => none }
def fnExactPivotCountsRow : OpenClaim := { program := "ytdahpkgbhlkmbaa", sum := "af0f9248fc696b14f0c31aa4942f4f33bf5f85d3df4154e9d3d8ee058ef91d28", func := "loop.example/failingnets/laws.FnExactPivotCounts", spec := "fnExactPivotCounts", apart := false }
def FnExactPivotCountsSaid : Prop := fnExactPivotCountsRow.holds Try.pinned (OpenSpec.ofChange fnExactPivotCountsSpec)

/-- ITS FALSE NEIGHBOUR: 'it returns false'. Refute it at one input. -/
def fnExactPivotCountsWrong : ChangeSpec := { name := "fnExactPivotCounts", fn := fun _ => fun
  | [d1, d2, d3, d4] => { results := [.lit (.bool false)], args := [d1, d2, d3, d4] }
  | _ => none }
def FnExactPivotCountsWrongFalsely : Prop := fnExactPivotCountsRow.holds Try.pinned (OpenSpec.ofChange fnExactPivotCountsWrong)

/-- 'laws.FnAllPivots': WHATEVER THE INPUT: true; the input reads as it did. -/
def fnAllPivotsSpec : ChangeSpec := { name := "fnAllPivots", fn := fun _ => fun
  | [d] => { results := [.lit (.bool true)], args := [d] }
  | _ => none }
def fnAllPivotsRow : OpenClaim := { program := "ytdahpkgbhlkmbaa", sum := "af0f9248fc696b14f0c31aa4942f4f33bf5f85d3df4154e9d3d8ee058ef91d28", func := "loop.example/failingnets/laws.FnAllPivots", spec := "fnAllPivots", unfollowed := true, recurses := true, apart := false }
def FnAllPivotsSaid : Prop := fnAllPivotsRow.holds Try.pinned (OpenSpec.ofChange fnAllPivotsSpec)

/-- ITS FALSE NEIGHBOUR: 'it returns false'. Refute it at one input. -/
def fnAllPivotsWrong : ChangeSpec := { name := "fnAllPivots", fn := fun _ => fun
  | [d] => { results := [.lit (.bool false)], args := [d] }
  | _ => none }
def FnAllPivotsWrongFalsely : Prop := fnAllPivotsRow.holds Try.pinned (OpenSpec.ofChange fnAllPivotsWrong)

/-- 'laws.FnExactAllPivots': WHATEVER THE INPUT: true; the input reads as it did. -/
def fnExactAllPivotsSpec : ChangeSpec := { name := "fnExactAllPivots", fn := fun _ => fun
  | [d1, d2, d3] => { results := [.lit (.bool true)], args := [d1, d2, d3] }
  | _ => none }
def fnExactAllPivotsRow : OpenClaim := { program := "ytdahpkgbhlkmbaa", sum := "af0f9248fc696b14f0c31aa4942f4f33bf5f85d3df4154e9d3d8ee058ef91d28", func := "loop.example/failingnets/laws.FnExactAllPivots", spec := "fnExactAllPivots", unfollowed := true, recurses := true, apart := false }
def FnExactAllPivotsSaid : Prop := fnExactAllPivotsRow.holds Try.pinned (OpenSpec.ofChange fnExactAllPivotsSpec)

/-- ITS FALSE NEIGHBOUR: 'it returns false'. Refute it at one input. -/
def fnExactAllPivotsWrong : ChangeSpec := { name := "fnExactAllPivots", fn := fun _ => fun
  | [d1, d2, d3] => { results := [.lit (.bool false)], args := [d1, d2, d3] }
  | _ => none }
def FnExactAllPivotsWrongFalsely : Prop := fnExactAllPivotsRow.holds Try.pinned (OpenSpec.ofChange fnExactAllPivotsWrong)

/-- 'laws.FnWeightOf': WHATEVER THE INPUT: true; the input reads as it did. -/
def fnWeightOfSpec : ChangeSpec := { name := "fnWeightOf", fn := fun _ => fun
  | [d] => { results := [.lit (.bool true)], args := [d] }
  | _ => none }
def fnWeightOfRow : OpenClaim := { program := "ytdahpkgbhlkmbaa", sum := "af0f9248fc696b14f0c31aa4942f4f33bf5f85d3df4154e9d3d8ee058ef91d28", func := "loop.example/failingnets/laws.FnWeightOf", spec := "fnWeightOf", unfollowed := true, recurses := true, apart := false }
def FnWeightOfSaid : Prop := fnWeightOfRow.holds Try.pinned (OpenSpec.ofChange fnWeightOfSpec)

/-- ITS FALSE NEIGHBOUR: 'it returns false'. Refute it at one input. -/
def fnWeightOfWrong : ChangeSpec := { name := "fnWeightOf", fn := fun _ => fun
  | [d] => { results := [.lit (.bool false)], args := [d] }
  | _ => none }
def FnWeightOfWrongFalsely : Prop := fnWeightOfRow.holds Try.pinned (OpenSpec.ofChange fnWeightOfWrong)

/-- 'laws.FnExactWeightOf': WHATEVER THE INPUT: true; the input reads as it did. -/
def fnExactWeightOfSpec : ChangeSpec := { name := "fnExactWeightOf", fn := fun _ => fun
  | [d1, d2, d3, d4] => { results := [.lit (.bool true)], args := [d1, d2, d3, d4] }
  | _ => none }
def fnExactWeightOfRow : OpenClaim := { program := "ytdahpkgbhlkmbaa", sum := "af0f9248fc696b14f0c31aa4942f4f33bf5f85d3df4154e9d3d8ee058ef91d28", func := "loop.example/failingnets/laws.FnExactWeightOf", spec := "fnExactWeightOf", unfollowed := true, recurses := true, apart := false }
def FnExactWeightOfSaid : Prop := fnExactWeightOfRow.holds Try.pinned (OpenSpec.ofChange fnExactWeightOfSpec)

/-- ITS FALSE NEIGHBOUR: 'it returns false'. Refute it at one input. -/
def fnExactWeightOfWrong : ChangeSpec := { name := "fnExactWeightOf", fn := fun _ => fun
  | [d1, d2, d3, d4] => { results := [.lit (.bool false)], args := [d1, d2, d3, d4] }
  | _ => none }
def FnExactWeightOfWrongFalsely : Prop := fnExactWeightOfRow.holds Try.pinned (OpenSpec.ofChange fnExactWeightOfWrong)

/- THE SECOND FORM. 'bulk': how many values and letters a reading holds, each counted each time it is reached (what is shared counts as often as it is met; a slice's spare places count too). A statement '..UptoSaid' is the law's where the arguments, and the package variables that the reading takes, are together of bulk at most 1048576: NARROWER than '..Said'. Prove '..Said' where nothing that the law and all that it calls make is longer than what came in: it says more and counts as full. Else prove '..UptoSaid'. A law counts once. -/
mutual
def uptoBulk {H : Type} : DataW H → Nat
  | .lit (.string bytes) => bytes.length + 1
  | .lit _ => 1
  | .nil => 1
  | .ptr d => uptoBulk d + 1
  | .slice elems spare => uptoBulkAll elems + uptoBulkAll spare + 1
  | .agg parts => uptoBulkAll parts + 1
  | .iface _ d => uptoBulk d + 1
  | .map entries => uptoBulkEntries entries + 1
  | .held _ => 1
def uptoBulkAll {H : Type} : List (DataW H) → Nat
  | [] => 0
  | d :: r => uptoBulk d + uptoBulkAll r
def uptoBulkEntries {H : Type} : List (Lit × DataW H) → Nat
  | [] => 0
  | x :: r => uptoBulkEntry x + uptoBulkEntries r
def uptoBulkEntry {H : Type} : Lit × DataW H → Nat
  | (.string bytes, d) => bytes.length + uptoBulk d + 1
  | (_, d) => uptoBulk d + 1
 end
def uptoSmall : (H : Type) → List (DataW H) → Bool := fun _ ds => decide (uptoBulkAll ds ≤ 1048576)
def OpenSpec.upto (s : _root_.Go.ChangeSpec) : _root_.Go.OpenSpec := { _root_.Go.OpenSpec.ofChange s with cond := some uptoSmall }

/-- 'laws.FnPivotOk', WHERE WHAT IT READS IS OF BULK AT MOST 1048576: true; the input reads as it did. -/
def fnPivotOkUptoRow : OpenClaim := { program := "ytdahpkgbhlkmbaa", sum := "af0f9248fc696b14f0c31aa4942f4f33bf5f85d3df4154e9d3d8ee058ef91d28", func := "loop.example/failingnets/laws.FnPivotOk", spec := "fnPivotOk", unfollowed := true, recurses := true, apart := false, narrowed := true }
def FnPivotOkUptoSaid : Prop := fnPivotOkUptoRow.holds Try.pinned (OpenSpec.upto fnPivotOkSpec)

/-- 'laws.FnExactPivotOk', WHERE WHAT IT READS IS OF BULK AT MOST 1048576: true; the input reads as it did. -/
def fnExactPivotOkUptoRow : OpenClaim := { program := "ytdahpkgbhlkmbaa", sum := "af0f9248fc696b14f0c31aa4942f4f33bf5f85d3df4154e9d3d8ee058ef91d28", func := "loop.example/failingnets/laws.FnExactPivotOk", spec := "fnExactPivotOk", apart := false, narrowed := true }
def FnExactPivotOkUptoSaid : Prop := fnExactPivotOkUptoRow.holds Try.pinned (OpenSpec.upto fnExactPivotOkSpec)

/-- 'laws.FnPivotCounts', WHERE WHAT IT READS IS OF BULK AT MOST 1048576: true; the input reads as it did. -/
def fnPivotCountsUptoRow : OpenClaim := { program := "ytdahpkgbhlkmbaa", sum := "af0f9248fc696b14f0c31aa4942f4f33bf5f85d3df4154e9d3d8ee058ef91d28", func := "loop.example/failingnets/laws.FnPivotCounts", spec := "fnPivotCounts", unfollowed := true, recurses := true, apart := false, narrowed := true }
def FnPivotCountsUptoSaid : Prop := fnPivotCountsUptoRow.holds Try.pinned (OpenSpec.upto fnPivotCountsSpec)

/-- 'laws.FnExactPivotCounts', WHERE WHAT IT READS IS OF BULK AT MOST 1048576: true; the input reads as it did. -/
def fnExactPivotCountsUptoRow : OpenClaim := { program := "ytdahpkgbhlkmbaa", sum := "af0f9248fc696b14f0c31aa4942f4f33bf5f85d3df4154e9d3d8ee058ef91d28", func := "loop.example/failingnets/laws.FnExactPivotCounts", spec := "fnExactPivotCounts", apart := false, narrowed := true }
def FnExactPivotCountsUptoSaid : Prop := fnExactPivotCountsUptoRow.holds Try.pinned (OpenSpec.upto fnExactPivotCountsSpec)

/-- 'laws.FnAllPivots', WHERE WHAT IT READS IS OF BULK AT MOST 1048576: true; the input reads as it did. -/
def fnAllPivotsUptoRow : OpenClaim := { program := "ytdahpkgbhlkmbaa", sum := "af0f9248fc696b14f0c31aa4942f4f33bf5f85d3df4154e9d3d8ee058ef91d28", func := "loop.example/failingnets/laws.FnAllPivots", spec := "fnAllPivots", unfollowed := true, recurses := true, apart := false, narrowed := true }
def FnAllPivotsUptoSaid : Prop := fnAllPivotsUptoRow.holds Try.pinned (OpenSpec.upto fnAllPivotsSpec)

/-- 'laws.FnExactAllPivots', WHERE WHAT IT READS IS OF BULK AT MOST 1048576: true; the input reads as it did. -/
def fnExactAllPivotsUptoRow : OpenClaim := { program := "ytdahpkgbhlkmbaa", sum := "af0f9248fc696b14f0c31aa4942f4f33bf5f85d3df4154e9d3d8ee058ef91d28", func := "loop.example/failingnets/laws.FnExactAllPivots", spec := "fnExactAllPivots", unfollowed := true, recurses := true, apart := false, narrowed := true }
def FnExactAllPivotsUptoSaid : Prop := fnExactAllPivotsUptoRow.holds Try.pinned (OpenSpec.upto fnExactAllPivotsSpec)

/-- 'laws.FnWeightOf', WHERE WHAT IT READS IS OF BULK AT MOST 1048576: true; the input reads as it did. -/
def fnWeightOfUptoRow : OpenClaim := { program := "ytdahpkgbhlkmbaa", sum := "af0f9248fc696b14f0c31aa4942f4f33bf5f85d3df4154e9d3d8ee058ef91d28", func := "loop.example/failingnets/laws.FnWeightOf", spec := "fnWeightOf", unfollowed := true, recurses := true, apart := false, narrowed := true }
def FnWeightOfUptoSaid : Prop := fnWeightOfUptoRow.holds Try.pinned (OpenSpec.upto fnWeightOfSpec)

/-- 'laws.FnExactWeightOf', WHERE WHAT IT READS IS OF BULK AT MOST 1048576: true; the input reads as it did. -/
def fnExactWeightOfUptoRow : OpenClaim := { program := "ytdahpkgbhlkmbaa", sum := "af0f9248fc696b14f0c31aa4942f4f33bf5f85d3df4154e9d3d8ee058ef91d28", func := "loop.example/failingnets/laws.FnExactWeightOf", spec := "fnExactWeightOf", unfollowed := true, recurses := true, apart := false, narrowed := true }
def FnExactWeightOfUptoSaid : Prop := fnExactWeightOfUptoRow.holds Try.pinned (OpenSpec.upto fnExactWeightOfSpec)

end Rows
end Go.Proofs.Ytdahpkgbhlkmbaa
