/-
  No cell of these rows narrows 'for every input' (looked for: loops, veiled, ifaces, maps, wideKeys, modest, calm, conditions, laid).
  DERIVED. THE GIVEN ROWS OF THIS SEAT. 9 by the template 'for every input the law returns true; each argument reads behind the call as it read before'; 0 by the template 'total and deterministic' (their statements: YtlcgbmeneajfoacTotals.lean).
  GIVEN WITH THE SEED: the statements are not yours to turn. If you find one false, say at which input.
  Laid BY PROGRAM, IN A SANDBOX (cutbox-rows.mjs): the forced cells as the released guide's own fill.sh prints them over the translation 4d98205c06e7f6f0… (all of the seat's roots in one cut). By AI agents, Wed Nov 11 2026. No macro, syntax, notation, axiom, sorry.
-/
import Derived.Test.YtlcgbmeneajfoacChecked
import GoSem.Claim
import GoSem.ClaimJoined
import GoSem.ClaimMapViews
import Derived.JoinedTies
import Derived.KernelRfl
namespace Go.Proofs.Ytlcgbmeneajfoac
/- THE CELL 'sum', in the pinned program and in every row, IS THE sha256 OF THE DUMP (.gsa) THAT YtlcgbmeneajfoacProg.lean LOADS. Nothing in Lean hashes anything: it is a label: what it is worth is what the hold of that sum in a sandbox is worth. -/
noncomputable def Try.pinned : Pinned := { name := "ytlcgbmeneajfoac", sum := "4d98205c06e7f6f0586757493c981f50d8eff76ad6db3f7b7c92ee280f498ea3", checked := Try.checked }
namespace Rows
def none {H : Type} : Left H := { results := [], args := [] }

/-- 'laws.FnExactCutsOf': WHATEVER THE INPUT: true; the input reads as it did. -/
def fnExactCutsOfSpec : ChangeSpec := { name := "fnExactCutsOf", fn := fun _ => fun
  | [d1, d2, d3] => { results := [.lit (.bool true)], args := [d1, d2, d3] }
  | _ => none }
def fnExactCutsOfRow : OpenClaim := { program := "ytlcgbmeneajfoac", sum := "4d98205c06e7f6f0586757493c981f50d8eff76ad6db3f7b7c92ee280f498ea3", func := "loop.example/failingnets/laws.FnExactCutsOf", spec := "fnExactCutsOf", unfollowed := true, recurses := true, apart := false }
def FnExactCutsOfSaid : Prop := fnExactCutsOfRow.holds Try.pinned (OpenSpec.ofChange fnExactCutsOfSpec)

/-- ITS FALSE NEIGHBOUR: 'it returns false'. Refute it at one input. -/
def fnExactCutsOfWrong : ChangeSpec := { name := "fnExactCutsOf", fn := fun _ => fun
  | [d1, d2, d3] => { results := [.lit (.bool false)], args := [d1, d2, d3] }
  | _ => none }
def FnExactCutsOfWrongFalsely : Prop := fnExactCutsOfRow.holds Try.pinned (OpenSpec.ofChange fnExactCutsOfWrong)

/-- 'laws.FnShortestOf': WHATEVER THE INPUT: true; the input reads as it did. -/
def fnShortestOfSpec : ChangeSpec := { name := "fnShortestOf", fn := fun _ => fun
  | [d] => { results := [.lit (.bool true)], args := [d] }
  | _ => none }
def fnShortestOfRow : OpenClaim := { program := "ytlcgbmeneajfoac", sum := "4d98205c06e7f6f0586757493c981f50d8eff76ad6db3f7b7c92ee280f498ea3", func := "loop.example/failingnets/laws.FnShortestOf", spec := "fnShortestOf", unfollowed := true, recurses := true, apart := false }
def FnShortestOfSaid : Prop := fnShortestOfRow.holds Try.pinned (OpenSpec.ofChange fnShortestOfSpec)

/-- ITS FALSE NEIGHBOUR: 'it returns false'. Refute it at one input. -/
def fnShortestOfWrong : ChangeSpec := { name := "fnShortestOf", fn := fun _ => fun
  | [d] => { results := [.lit (.bool false)], args := [d] }
  | _ => none }
def FnShortestOfWrongFalsely : Prop := fnShortestOfRow.holds Try.pinned (OpenSpec.ofChange fnShortestOfWrong)

/-- 'laws.FnExactShortestOf': WHATEVER THE INPUT: true; the input reads as it did. -/
def fnExactShortestOfSpec : ChangeSpec := { name := "fnExactShortestOf", fn := fun _ => fun
  | [d1, d2, d3] => { results := [.lit (.bool true)], args := [d1, d2, d3] }
  | _ => none }
def fnExactShortestOfRow : OpenClaim := { program := "ytlcgbmeneajfoac", sum := "4d98205c06e7f6f0586757493c981f50d8eff76ad6db3f7b7c92ee280f498ea3", func := "loop.example/failingnets/laws.FnExactShortestOf", spec := "fnExactShortestOf", unfollowed := true, recurses := true, apart := false }
def FnExactShortestOfSaid : Prop := fnExactShortestOfRow.holds Try.pinned (OpenSpec.ofChange fnExactShortestOfSpec)

/-- ITS FALSE NEIGHBOUR: 'it returns false'. Refute it at one input. -/
def fnExactShortestOfWrong : ChangeSpec := { name := "fnExactShortestOf", fn := fun _ => fun
  | [d1, d2, d3] => { results := [.lit (.bool false)], args := [d1, d2, d3] }
  | _ => none }
def FnExactShortestOfWrongFalsely : Prop := fnExactShortestOfRow.holds Try.pinned (OpenSpec.ofChange fnExactShortestOfWrong)

/-- 'laws.FnThinnestOf': WHATEVER THE INPUT: true; the input reads as it did. -/
def fnThinnestOfSpec : ChangeSpec := { name := "fnThinnestOf", fn := fun _ => fun
  | [d] => { results := [.lit (.bool true)], args := [d] }
  | _ => none }
def fnThinnestOfRow : OpenClaim := { program := "ytlcgbmeneajfoac", sum := "4d98205c06e7f6f0586757493c981f50d8eff76ad6db3f7b7c92ee280f498ea3", func := "loop.example/failingnets/laws.FnThinnestOf", spec := "fnThinnestOf", unfollowed := true, recurses := true, apart := false }
def FnThinnestOfSaid : Prop := fnThinnestOfRow.holds Try.pinned (OpenSpec.ofChange fnThinnestOfSpec)

/-- ITS FALSE NEIGHBOUR: 'it returns false'. Refute it at one input. -/
def fnThinnestOfWrong : ChangeSpec := { name := "fnThinnestOf", fn := fun _ => fun
  | [d] => { results := [.lit (.bool false)], args := [d] }
  | _ => none }
def FnThinnestOfWrongFalsely : Prop := fnThinnestOfRow.holds Try.pinned (OpenSpec.ofChange fnThinnestOfWrong)

/-- 'laws.FnExactThinnestOf': WHATEVER THE INPUT: true; the input reads as it did. -/
def fnExactThinnestOfSpec : ChangeSpec := { name := "fnExactThinnestOf", fn := fun _ => fun
  | [d1, d2, d3] => { results := [.lit (.bool true)], args := [d1, d2, d3] }
  | _ => none }
def fnExactThinnestOfRow : OpenClaim := { program := "ytlcgbmeneajfoac", sum := "4d98205c06e7f6f0586757493c981f50d8eff76ad6db3f7b7c92ee280f498ea3", func := "loop.example/failingnets/laws.FnExactThinnestOf", spec := "fnExactThinnestOf", unfollowed := true, recurses := true, apart := false }
def FnExactThinnestOfSaid : Prop := fnExactThinnestOfRow.holds Try.pinned (OpenSpec.ofChange fnExactThinnestOfSpec)

/-- ITS FALSE NEIGHBOUR: 'it returns false'. Refute it at one input. -/
def fnExactThinnestOfWrong : ChangeSpec := { name := "fnExactThinnestOf", fn := fun _ => fun
  | [d1, d2, d3] => { results := [.lit (.bool false)], args := [d1, d2, d3] }
  | _ => none }
def FnExactThinnestOfWrongFalsely : Prop := fnExactThinnestOfRow.holds Try.pinned (OpenSpec.ofChange fnExactThinnestOfWrong)

/-- 'laws.FnApartPaths': WHATEVER THE INPUT: true; the input reads as it did. -/
def fnApartPathsSpec : ChangeSpec := { name := "fnApartPaths", fn := fun _ => fun
  | [d] => { results := [.lit (.bool true)], args := [d] }
  | _ => none }
def fnApartPathsRow : OpenClaim := { program := "ytlcgbmeneajfoac", sum := "4d98205c06e7f6f0586757493c981f50d8eff76ad6db3f7b7c92ee280f498ea3", func := "loop.example/failingnets/laws.FnApartPaths", spec := "fnApartPaths", unfollowed := true, recurses := true, apart := false }
def FnApartPathsSaid : Prop := fnApartPathsRow.holds Try.pinned (OpenSpec.ofChange fnApartPathsSpec)

/-- ITS FALSE NEIGHBOUR: 'it returns false'. Refute it at one input. -/
def fnApartPathsWrong : ChangeSpec := { name := "fnApartPaths", fn := fun _ => fun
  | [d] => { results := [.lit (.bool false)], args := [d] }
  | _ => none }
def FnApartPathsWrongFalsely : Prop := fnApartPathsRow.holds Try.pinned (OpenSpec.ofChange fnApartPathsWrong)

/-- 'laws.FnExactApartPaths': WHATEVER THE INPUT: true; the input reads as it did. -/
def fnExactApartPathsSpec : ChangeSpec := { name := "fnExactApartPaths", fn := fun _ => fun
  | [d1, d2, d3] => { results := [.lit (.bool true)], args := [d1, d2, d3] }
  | _ => none }
def fnExactApartPathsRow : OpenClaim := { program := "ytlcgbmeneajfoac", sum := "4d98205c06e7f6f0586757493c981f50d8eff76ad6db3f7b7c92ee280f498ea3", func := "loop.example/failingnets/laws.FnExactApartPaths", spec := "fnExactApartPaths", unfollowed := true, recurses := true, apart := false }
def FnExactApartPathsSaid : Prop := fnExactApartPathsRow.holds Try.pinned (OpenSpec.ofChange fnExactApartPathsSpec)

/-- ITS FALSE NEIGHBOUR: 'it returns false'. Refute it at one input. -/
def fnExactApartPathsWrong : ChangeSpec := { name := "fnExactApartPaths", fn := fun _ => fun
  | [d1, d2, d3] => { results := [.lit (.bool false)], args := [d1, d2, d3] }
  | _ => none }
def FnExactApartPathsWrongFalsely : Prop := fnExactApartPathsRow.holds Try.pinned (OpenSpec.ofChange fnExactApartPathsWrong)

/-- 'laws.FnPivotOk': WHATEVER THE INPUT: true; the input reads as it did. -/
def fnPivotOkSpec : ChangeSpec := { name := "fnPivotOk", fn := fun _ => fun
  | [d] => { results := [.lit (.bool true)], args := [d] }
  | _ => none }
def fnPivotOkRow : OpenClaim := { program := "ytlcgbmeneajfoac", sum := "4d98205c06e7f6f0586757493c981f50d8eff76ad6db3f7b7c92ee280f498ea3", func := "loop.example/failingnets/laws.FnPivotOk", spec := "fnPivotOk", unfollowed := true, recurses := true, apart := false }
def FnPivotOkSaid : Prop := fnPivotOkRow.holds Try.pinned (OpenSpec.ofChange fnPivotOkSpec)

/-- ITS FALSE NEIGHBOUR: 'it returns false'. Refute it at one input. -/
def fnPivotOkWrong : ChangeSpec := { name := "fnPivotOk", fn := fun _ => fun
  | [d] => { results := [.lit (.bool false)], args := [d] }
  | _ => none }
def FnPivotOkWrongFalsely : Prop := fnPivotOkRow.holds Try.pinned (OpenSpec.ofChange fnPivotOkWrong)

/-- 'laws.FnWeightOf': WHATEVER THE INPUT: true; the input reads as it did. -/
def fnWeightOfSpec : ChangeSpec := { name := "fnWeightOf", fn := fun _ => fun
  | [d] => { results := [.lit (.bool true)], args := [d] }
  | _ => none }
def fnWeightOfRow : OpenClaim := { program := "ytlcgbmeneajfoac", sum := "4d98205c06e7f6f0586757493c981f50d8eff76ad6db3f7b7c92ee280f498ea3", func := "loop.example/failingnets/laws.FnWeightOf", spec := "fnWeightOf", unfollowed := true, recurses := true, apart := false }
def FnWeightOfSaid : Prop := fnWeightOfRow.holds Try.pinned (OpenSpec.ofChange fnWeightOfSpec)

/-- ITS FALSE NEIGHBOUR: 'it returns false'. Refute it at one input. -/
def fnWeightOfWrong : ChangeSpec := { name := "fnWeightOf", fn := fun _ => fun
  | [d] => { results := [.lit (.bool false)], args := [d] }
  | _ => none }
def FnWeightOfWrongFalsely : Prop := fnWeightOfRow.holds Try.pinned (OpenSpec.ofChange fnWeightOfWrong)

/- THE SECOND FORM. 'bulk': how many values and letters a reading holds, each counted each time it is reached (what is shared counts as often as it is met; a slice's spare places count too). A statement '..UptoSaid' is the law's where the arguments, and the package variables that the reading takes, are together of bulk at most 1048576: NARROWER than '..Said'. Prove '..Said' where nothing that the law and all that it calls make is longer than what came in: it says more and counts as full. Else prove '..UptoSaid'. A law counts once. -/
mutual
def uptoBulk {H : Type} : DataW H → Nat
  | .lit (.string bytes) => bytes.length + 1
  | .lit _ => 1
  | .nil => 1
  | .ptr d => uptoBulk d + 1
  | .slice elems spare => uptoBulkAll elems + uptoBulkAll spare + 1
  | .agg parts => uptoBulkAll parts + 1
  | .iface _ d => uptoBulk d + 1
  | .map entries => uptoBulkEntries entries + 1
  | .held _ => 1
def uptoBulkAll {H : Type} : List (DataW H) → Nat
  | [] => 0
  | d :: r => uptoBulk d + uptoBulkAll r
def uptoBulkEntries {H : Type} : List (Lit × DataW H) → Nat
  | [] => 0
  | x :: r => uptoBulkEntry x + uptoBulkEntries r
def uptoBulkEntry {H : Type} : Lit × DataW H → Nat
  | (.string bytes, d) => bytes.length + uptoBulk d + 1
  | (_, d) => uptoBulk d + 1
 end
def uptoSmall : (H : Type) → List (DataW H) → Bool := fun _ ds => decide (uptoBulkAll ds ≤ 1048576)
def OpenSpec.upto (s : _root_.Go.ChangeSpec) : _root_.Go.OpenSpec := { _root_.Go.OpenSpec.ofChange s with cond := some uptoSmall }

/-- 'laws.FnExactCutsOf', WHERE WHAT IT READS IS OF BULK AT MOST 1048576: true; the input reads as it did. -/
def fnExactCutsOfUptoRow : OpenClaim := { program := "ytlcgbmeneajfoac", sum := "4d98205c06e7f6f0586757493c981f50d8eff76ad6db3f7b7c92ee280f498ea3", func := "loop.example/failingnets/laws.FnExactCutsOf", spec := "fnExactCutsOf", unfollowed := true, recurses := true, apart := false, narrowed := true }
def FnExactCutsOfUptoSaid : Prop := fnExactCutsOfUptoRow.holds Try.pinned (OpenSpec.upto fnExactCutsOfSpec)

/-- 'laws.FnShortestOf', WHERE WHAT IT READS IS OF BULK AT MOST 1048576: true; the input reads as it did. -/
def fnShortestOfUptoRow : OpenClaim := { program := "ytlcgbmeneajfoac", sum := "4d98205c06e7f6f0586757493c981f50d8eff76ad6db3f7b7c92ee280f498ea3", func := "loop.example/failingnets/laws.FnShortestOf", spec := "fnShortestOf", unfollowed := true, recurses := true, apart := false, narrowed := true }
def FnShortestOfUptoSaid : Prop := fnShortestOfUptoRow.holds Try.pinned (OpenSpec.upto fnShortestOfSpec)

/-- 'laws.FnExactShortestOf', WHERE WHAT IT READS IS OF BULK AT MOST 1048576: true; the input reads as it did. -/
def fnExactShortestOfUptoRow : OpenClaim := { program := "ytlcgbmeneajfoac", sum := "4d98205c06e7f6f0586757493c981f50d8eff76ad6db3f7b7c92ee280f498ea3", func := "loop.example/failingnets/laws.FnExactShortestOf", spec := "fnExactShortestOf", unfollowed := true, recurses := true, apart := false, narrowed := true }
def FnExactShortestOfUptoSaid : Prop := fnExactShortestOfUptoRow.holds Try.pinned (OpenSpec.upto fnExactShortestOfSpec)

/-- 'laws.FnThinnestOf', WHERE WHAT IT READS IS OF BULK AT MOST 1048576: true; the input reads as it did. -/
def fnThinnestOfUptoRow : OpenClaim := { program := "ytlcgbmeneajfoac", sum := "4d98205c06e7f6f0586757493c981f50d8eff76ad6db3f7b7c92ee280f498ea3", func := "loop.example/failingnets/laws.FnThinnestOf", spec := "fnThinnestOf", unfollowed := true, recurses := true, apart := false, narrowed := true }
def FnThinnestOfUptoSaid : Prop := fnThinnestOfUptoRow.holds Try.pinned (OpenSpec.upto fnThinnestOfSpec)

/-- 'laws.FnExactThinnestOf', WHERE WHAT IT READS IS OF BULK AT MOST 1048576: true; the input reads as it did. -/
def fnExactThinnestOfUptoRow : OpenClaim := { program := "ytlcgbmeneajfoac", sum := "4d98205c06e7f6f0586757493c981f50d8eff76ad6db3f7b7c92ee280f498ea3", func := "loop.example/failingnets/laws.FnExactThinnestOf", spec := "fnExactThinnestOf", unfollowed := true, recurses := true, apart := false, narrowed := true }
def FnExactThinnestOfUptoSaid : Prop := fnExactThinnestOfUptoRow.holds Try.pinned (OpenSpec.upto fnExactThinnestOfSpec)

/-- 'laws.FnApartPaths', WHERE WHAT IT READS IS OF BULK AT MOST 1048576: true; the input reads as it did. -/
def fnApartPathsUptoRow : OpenClaim := { program := "ytlcgbmeneajfoac", sum := "4d98205c06e7f6f0586757493c981f50d8eff76ad6db3f7b7c92ee280f498ea3", func := "loop.example/failingnets/laws.FnApartPaths", spec := "fnApartPaths", unfollowed := true, recurses := true, apart := false, narrowed := true }
def FnApartPathsUptoSaid : Prop := fnApartPathsUptoRow.holds Try.pinned (OpenSpec.upto fnApartPathsSpec)

/-- 'laws.FnExactApartPaths', WHERE WHAT IT READS IS OF BULK AT MOST 1048576: true; the input reads as it did. -/
def fnExactApartPathsUptoRow : OpenClaim := { program := "ytlcgbmeneajfoac", sum := "4d98205c06e7f6f0586757493c981f50d8eff76ad6db3f7b7c92ee280f498ea3", func := "loop.example/failingnets/laws.FnExactApartPaths", spec := "fnExactApartPaths", unfollowed := true, recurses := true, apart := false, narrowed := true }
def FnExactApartPathsUptoSaid : Prop := fnExactApartPathsUptoRow.holds Try.pinned (OpenSpec.upto fnExactApartPathsSpec)

/-- 'laws.FnPivotOk', WHERE WHAT IT READS IS OF BULK AT MOST 1048576: true; the input reads as it did. -/
def fnPivotOkUptoRow : OpenClaim := { program := "ytlcgbmeneajfoac", sum := "4d98205c06e7f6f0586757493c981f50d8eff76ad6db3f7b7c92ee280f498ea3", func := "loop.example/failingnets/laws.FnPivotOk", spec := "fnPivotOk", unfollowed := true, recurses := true, apart := false, narrowed := true }
def FnPivotOkUptoSaid : Prop := fnPivotOkUptoRow.holds Try.pinned (OpenSpec.upto fnPivotOkSpec)

/-- 'laws.FnWeightOf', WHERE WHAT IT READS IS OF BULK AT MOST 1048576: true; the input reads as it did. -/
def fnWeightOfUptoRow : OpenClaim := { program := "ytlcgbmeneajfoac", sum := "4d98205c06e7f6f0586757493c981f50d8eff76ad6db3f7b7c92ee280f498ea3", func := "loop.example/failingnets/laws.FnWeightOf", spec := "fnWeightOf", unfollowed := true, recurses := true, apart := false, narrowed := true }
def FnWeightOfUptoSaid : Prop := fnWeightOfUptoRow.holds Try.pinned (OpenSpec.upto fnWeightOfSpec)

end Rows
end Go.Proofs.Ytlcgbmeneajfoac
