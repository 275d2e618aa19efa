/-
  No cell of these rows narrows 'for every input' (looked for: loops, veiled, ifaces, maps, wideKeys, modest, calm, conditions, laid).
  DERIVED. THE GIVEN ROWS OF THIS SEAT. 12 by the template 'for every input the law returns true; each argument reads behind the call as it read before'; 0 by the template 'total and deterministic' (their statements: YtmdmmebekicpkaaTotals.lean).
  GIVEN WITH THE SEED: the statements are not yours to turn. If you find one false, say at which input.
  Laid BY PROGRAM, IN A SANDBOX (cutbox-rows.mjs): the forced cells as the released guide's own fill.sh prints them over the translation 92612a0a1ffa8e94… (all of the seat's roots in one cut). By AI agents, Wed Nov 11 2026. No macro, syntax, notation, axiom, sorry.
-/
import Derived.Test.YtmdmmebekicpkaaChecked
import GoSem.Claim
import GoSem.ClaimJoined
import GoSem.ClaimMapViews
import Derived.JoinedTies
import Derived.KernelRfl
namespace Go.Proofs.Ytmdmmebekicpkaa
/- THE CELL 'sum', in the pinned program and in every row, IS THE sha256 OF THE DUMP (.gsa) THAT YtmdmmebekicpkaaProg.lean LOADS. Nothing in Lean hashes anything: it is a label: what it is worth is what the hold of that sum in a sandbox is worth. -/
noncomputable def Try.pinned : Pinned := { name := "ytmdmmebekicpkaa", sum := "92612a0a1ffa8e94dab580bfb126ba1ce6de68c69dce95452d04765d974b6f4b", checked := Try.checked }
namespace Rows
def none {H : Type} : Left H := { results := [], args := [] }

/-- 'laws.FnFamilyFrom': WHATEVER THE INPUT: true; the input reads as it did. -/
def fnFamilyFromSpec : ChangeSpec := { name := "fnFamilyFrom", fn := fun _ => fun
  | [d] => { results := [.lit (.bool true)], args := [d] }
  | _ => none }
def fnFamilyFromRow : OpenClaim := { program := "ytmdmmebekicpkaa", sum := "92612a0a1ffa8e94dab580bfb126ba1ce6de68c69dce95452d04765d974b6f4b", func := "loop.example/failingnets/laws.FnFamilyFrom", spec := "fnFamilyFrom", unfollowed := true, recurses := true, apart := false }
def FnFamilyFromSaid : Prop := fnFamilyFromRow.holds Try.pinned (OpenSpec.ofChange fnFamilyFromSpec)

/-- ITS FALSE NEIGHBOUR: 'it returns false'. Refute it at one input. -/
def fnFamilyFromWrong : ChangeSpec := { name := "fnFamilyFrom", fn := fun _ => fun
  | [d] => { results := [.lit (.bool false)], args := [d] }
  | _ => none }
def FnFamilyFromWrongFalsely : Prop := fnFamilyFromRow.holds Try.pinned (OpenSpec.ofChange fnFamilyFromWrong)

/-- 'laws.FnBothFamilies': WHATEVER THE INPUT: true; the input reads as it did. -/
def fnBothFamiliesSpec : ChangeSpec := { name := "fnBothFamilies", fn := fun _ => fun
  | [d] => { results := [.lit (.bool true)], args := [d] }
  | _ => none }
def fnBothFamiliesRow : OpenClaim := { program := "ytmdmmebekicpkaa", sum := "92612a0a1ffa8e94dab580bfb126ba1ce6de68c69dce95452d04765d974b6f4b", func := "loop.example/failingnets/laws.FnBothFamilies", spec := "fnBothFamilies", unfollowed := true, recurses := true, apart := false }
def FnBothFamiliesSaid : Prop := fnBothFamiliesRow.holds Try.pinned (OpenSpec.ofChange fnBothFamiliesSpec)

/-- ITS FALSE NEIGHBOUR: 'it returns false'. Refute it at one input. -/
def fnBothFamiliesWrong : ChangeSpec := { name := "fnBothFamilies", fn := fun _ => fun
  | [d] => { results := [.lit (.bool false)], args := [d] }
  | _ => none }
def FnBothFamiliesWrongFalsely : Prop := fnBothFamiliesRow.holds Try.pinned (OpenSpec.ofChange fnBothFamiliesWrong)

/-- 'laws.FnEitherFamily': WHATEVER THE INPUT: true; the input reads as it did. -/
def fnEitherFamilySpec : ChangeSpec := { name := "fnEitherFamily", fn := fun _ => fun
  | [d] => { results := [.lit (.bool true)], args := [d] }
  | _ => none }
def fnEitherFamilyRow : OpenClaim := { program := "ytmdmmebekicpkaa", sum := "92612a0a1ffa8e94dab580bfb126ba1ce6de68c69dce95452d04765d974b6f4b", func := "loop.example/failingnets/laws.FnEitherFamily", spec := "fnEitherFamily", unfollowed := true, recurses := true, apart := false }
def FnEitherFamilySaid : Prop := fnEitherFamilyRow.holds Try.pinned (OpenSpec.ofChange fnEitherFamilySpec)

/-- ITS FALSE NEIGHBOUR: 'it returns false'. Refute it at one input. -/
def fnEitherFamilyWrong : ChangeSpec := { name := "fnEitherFamily", fn := fun _ => fun
  | [d] => { results := [.lit (.bool false)], args := [d] }
  | _ => none }
def FnEitherFamilyWrongFalsely : Prop := fnEitherFamilyRow.holds Try.pinned (OpenSpec.ofChange fnEitherFamilyWrong)

/-- 'laws.FnApartFamilies': WHATEVER THE INPUT: true; the input reads as it did. -/
def fnApartFamiliesSpec : ChangeSpec := { name := "fnApartFamilies", fn := fun _ => fun
  | [d] => { results := [.lit (.bool true)], args := [d] }
  | _ => none }
def fnApartFamiliesRow : OpenClaim := { program := "ytmdmmebekicpkaa", sum := "92612a0a1ffa8e94dab580bfb126ba1ce6de68c69dce95452d04765d974b6f4b", func := "loop.example/failingnets/laws.FnApartFamilies", spec := "fnApartFamilies", unfollowed := true, recurses := true, apart := false }
def FnApartFamiliesSaid : Prop := fnApartFamiliesRow.holds Try.pinned (OpenSpec.ofChange fnApartFamiliesSpec)

/-- ITS FALSE NEIGHBOUR: 'it returns false'. Refute it at one input. -/
def fnApartFamiliesWrong : ChangeSpec := { name := "fnApartFamilies", fn := fun _ => fun
  | [d] => { results := [.lit (.bool false)], args := [d] }
  | _ => none }
def FnApartFamiliesWrongFalsely : Prop := fnApartFamiliesRow.holds Try.pinned (OpenSpec.ofChange fnApartFamiliesWrong)

/-- 'laws.FnExactBothFamilies': WHATEVER THE INPUT: true; the input reads as it did. -/
def fnExactBothFamiliesSpec : ChangeSpec := { name := "fnExactBothFamilies", fn := fun _ => fun
  | [d1, d2] => { results := [.lit (.bool true)], args := [d1, d2] }
  | _ => none }
def fnExactBothFamiliesRow : OpenClaim := { program := "ytmdmmebekicpkaa", sum := "92612a0a1ffa8e94dab580bfb126ba1ce6de68c69dce95452d04765d974b6f4b", func := "loop.example/failingnets/laws.FnExactBothFamilies", spec := "fnExactBothFamilies", unfollowed := true, recurses := true, apart := false }
def FnExactBothFamiliesSaid : Prop := fnExactBothFamiliesRow.holds Try.pinned (OpenSpec.ofChange fnExactBothFamiliesSpec)

/-- ITS FALSE NEIGHBOUR: 'it returns false'. Refute it at one input. -/
def fnExactBothFamiliesWrong : ChangeSpec := { name := "fnExactBothFamilies", fn := fun _ => fun
  | [d1, d2] => { results := [.lit (.bool false)], args := [d1, d2] }
  | _ => none }
def FnExactBothFamiliesWrongFalsely : Prop := fnExactBothFamiliesRow.holds Try.pinned (OpenSpec.ofChange fnExactBothFamiliesWrong)

/-- 'laws.FnExactEitherFamily': WHATEVER THE INPUT: true; the input reads as it did. -/
def fnExactEitherFamilySpec : ChangeSpec := { name := "fnExactEitherFamily", fn := fun _ => fun
  | [d1, d2] => { results := [.lit (.bool true)], args := [d1, d2] }
  | _ => none }
def fnExactEitherFamilyRow : OpenClaim := { program := "ytmdmmebekicpkaa", sum := "92612a0a1ffa8e94dab580bfb126ba1ce6de68c69dce95452d04765d974b6f4b", func := "loop.example/failingnets/laws.FnExactEitherFamily", spec := "fnExactEitherFamily", unfollowed := true, recurses := true, apart := false }
def FnExactEitherFamilySaid : Prop := fnExactEitherFamilyRow.holds Try.pinned (OpenSpec.ofChange fnExactEitherFamilySpec)

/-- ITS FALSE NEIGHBOUR: 'it returns false'. Refute it at one input. -/
def fnExactEitherFamilyWrong : ChangeSpec := { name := "fnExactEitherFamily", fn := fun _ => fun
  | [d1, d2] => { results := [.lit (.bool false)], args := [d1, d2] }
  | _ => none }
def FnExactEitherFamilyWrongFalsely : Prop := fnExactEitherFamilyRow.holds Try.pinned (OpenSpec.ofChange fnExactEitherFamilyWrong)

/-- 'laws.FnExactApartFamilies': WHATEVER THE INPUT: true; the input reads as it did. -/
def fnExactApartFamiliesSpec : ChangeSpec := { name := "fnExactApartFamilies", fn := fun _ => fun
  | [d1, d2] => { results := [.lit (.bool true)], args := [d1, d2] }
  | _ => none }
def fnExactApartFamiliesRow : OpenClaim := { program := "ytmdmmebekicpkaa", sum := "92612a0a1ffa8e94dab580bfb126ba1ce6de68c69dce95452d04765d974b6f4b", func := "loop.example/failingnets/laws.FnExactApartFamilies", spec := "fnExactApartFamilies", unfollowed := true, recurses := true, apart := false }
def FnExactApartFamiliesSaid : Prop := fnExactApartFamiliesRow.holds Try.pinned (OpenSpec.ofChange fnExactApartFamiliesSpec)

/-- ITS FALSE NEIGHBOUR: 'it returns false'. Refute it at one input. -/
def fnExactApartFamiliesWrong : ChangeSpec := { name := "fnExactApartFamilies", fn := fun _ => fun
  | [d1, d2] => { results := [.lit (.bool false)], args := [d1, d2] }
  | _ => none }
def FnExactApartFamiliesWrongFalsely : Prop := fnExactApartFamiliesRow.holds Try.pinned (OpenSpec.ofChange fnExactApartFamiliesWrong)

/-- 'laws.FnExactPathFamily': WHATEVER THE INPUT: true; the input reads as it did. -/
def fnExactPathFamilySpec : ChangeSpec := { name := "fnExactPathFamily", fn := fun _ => fun
  | [d1, d2, d3] => { results := [.lit (.bool true)], args := [d1, d2, d3] }
  | _ => none }
def fnExactPathFamilyRow : OpenClaim := { program := "ytmdmmebekicpkaa", sum := "92612a0a1ffa8e94dab580bfb126ba1ce6de68c69dce95452d04765d974b6f4b", func := "loop.example/failingnets/laws.FnExactPathFamily", spec := "fnExactPathFamily", unfollowed := true, recurses := true, apart := false }
def FnExactPathFamilySaid : Prop := fnExactPathFamilyRow.holds Try.pinned (OpenSpec.ofChange fnExactPathFamilySpec)

/-- ITS FALSE NEIGHBOUR: 'it returns false'. Refute it at one input. -/
def fnExactPathFamilyWrong : ChangeSpec := { name := "fnExactPathFamily", fn := fun _ => fun
  | [d1, d2, d3] => { results := [.lit (.bool false)], args := [d1, d2, d3] }
  | _ => none }
def FnExactPathFamilyWrongFalsely : Prop := fnExactPathFamilyRow.holds Try.pinned (OpenSpec.ofChange fnExactPathFamilyWrong)

/-- 'laws.FnPathFamily': WHATEVER THE INPUT: true; the input reads as it did. -/
def fnPathFamilySpec : ChangeSpec := { name := "fnPathFamily", fn := fun _ => fun
  | [d] => { results := [.lit (.bool true)], args := [d] }
  | _ => none }
def fnPathFamilyRow : OpenClaim := { program := "ytmdmmebekicpkaa", sum := "92612a0a1ffa8e94dab580bfb126ba1ce6de68c69dce95452d04765d974b6f4b", func := "loop.example/failingnets/laws.FnPathFamily", spec := "fnPathFamily", unfollowed := true, recurses := true, apart := false }
def FnPathFamilySaid : Prop := fnPathFamilyRow.holds Try.pinned (OpenSpec.ofChange fnPathFamilySpec)

/-- ITS FALSE NEIGHBOUR: 'it returns false'. Refute it at one input. -/
def fnPathFamilyWrong : ChangeSpec := { name := "fnPathFamily", fn := fun _ => fun
  | [d] => { results := [.lit (.bool false)], args := [d] }
  | _ => none }
def FnPathFamilyWrongFalsely : Prop := fnPathFamilyRow.holds Try.pinned (OpenSpec.ofChange fnPathFamilyWrong)

/-- 'laws.FnTwoPathsApart': WHATEVER THE INPUT: true; the input reads as it did. -/
def fnTwoPathsApartSpec : ChangeSpec := { name := "fnTwoPathsApart", fn := fun _ => fun
  | [d] => { results := [.lit (.bool true)], args := [d] }
  | _ => none }
def fnTwoPathsApartRow : OpenClaim := { program := "ytmdmmebekicpkaa", sum := "92612a0a1ffa8e94dab580bfb126ba1ce6de68c69dce95452d04765d974b6f4b", func := "loop.example/failingnets/laws.FnTwoPathsApart", spec := "fnTwoPathsApart", unfollowed := true, recurses := true, apart := false }
def FnTwoPathsApartSaid : Prop := fnTwoPathsApartRow.holds Try.pinned (OpenSpec.ofChange fnTwoPathsApartSpec)

/-- ITS FALSE NEIGHBOUR: 'it returns false'. Refute it at one input. -/
def fnTwoPathsApartWrong : ChangeSpec := { name := "fnTwoPathsApart", fn := fun _ => fun
  | [d] => { results := [.lit (.bool false)], args := [d] }
  | _ => none }
def FnTwoPathsApartWrongFalsely : Prop := fnTwoPathsApartRow.holds Try.pinned (OpenSpec.ofChange fnTwoPathsApartWrong)

/-- 'laws.FnExactWeightsOk': WHATEVER THE INPUT: true; the input reads as it did. -/
def fnExactWeightsOkSpec : ChangeSpec := { name := "fnExactWeightsOk", fn := fun _ => fun
  | [d1, d2] => { results := [.lit (.bool true)], args := [d1, d2] }
  | _ => none }
def fnExactWeightsOkRow : OpenClaim := { program := "ytmdmmebekicpkaa", sum := "92612a0a1ffa8e94dab580bfb126ba1ce6de68c69dce95452d04765d974b6f4b", func := "loop.example/failingnets/laws.FnExactWeightsOk", spec := "fnExactWeightsOk", unfollowed := true, recurses := true, apart := false }
def FnExactWeightsOkSaid : Prop := fnExactWeightsOkRow.holds Try.pinned (OpenSpec.ofChange fnExactWeightsOkSpec)

/-- ITS FALSE NEIGHBOUR: 'it returns false'. Refute it at one input. -/
def fnExactWeightsOkWrong : ChangeSpec := { name := "fnExactWeightsOk", fn := fun _ => fun
  | [d1, d2] => { results := [.lit (.bool false)], args := [d1, d2] }
  | _ => none }
def FnExactWeightsOkWrongFalsely : Prop := fnExactWeightsOkRow.holds Try.pinned (OpenSpec.ofChange fnExactWeightsOkWrong)

/-- 'laws.FnExactHeavyOf': WHATEVER THE INPUT: true; the input reads as it did. -/
def fnExactHeavyOfSpec : ChangeSpec := { name := "fnExactHeavyOf", fn := fun _ => fun
  | [d1, d2, d3] => { results := [.lit (.bool true)], args := [d1, d2, d3] }
  | _ => none }
def fnExactHeavyOfRow : OpenClaim := { program := "ytmdmmebekicpkaa", sum := "92612a0a1ffa8e94dab580bfb126ba1ce6de68c69dce95452d04765d974b6f4b", func := "loop.example/failingnets/laws.FnExactHeavyOf", spec := "fnExactHeavyOf", unfollowed := true, recurses := true, apart := false }
def FnExactHeavyOfSaid : Prop := fnExactHeavyOfRow.holds Try.pinned (OpenSpec.ofChange fnExactHeavyOfSpec)

/-- ITS FALSE NEIGHBOUR: 'it returns false'. Refute it at one input. -/
def fnExactHeavyOfWrong : ChangeSpec := { name := "fnExactHeavyOf", fn := fun _ => fun
  | [d1, d2, d3] => { results := [.lit (.bool false)], args := [d1, d2, d3] }
  | _ => none }
def FnExactHeavyOfWrongFalsely : Prop := fnExactHeavyOfRow.holds Try.pinned (OpenSpec.ofChange fnExactHeavyOfWrong)

/- THE SECOND FORM. 'bulk': how many values and letters a reading holds, each counted each time it is reached (what is shared counts as often as it is met; a slice's spare places count too). A statement '..UptoSaid' is the law's where the arguments, and the package variables that the reading takes, are together of bulk at most 1048576: NARROWER than '..Said'. Prove '..Said' where nothing that the law and all that it calls make is longer than what came in: it says more and counts as full. Else prove '..UptoSaid'. A law counts once. -/
mutual
def uptoBulk {H : Type} : DataW H → Nat
  | .lit (.string bytes) => bytes.length + 1
  | .lit _ => 1
  | .nil => 1
  | .ptr d => uptoBulk d + 1
  | .slice elems spare => uptoBulkAll elems + uptoBulkAll spare + 1
  | .agg parts => uptoBulkAll parts + 1
  | .iface _ d => uptoBulk d + 1
  | .map entries => uptoBulkEntries entries + 1
  | .held _ => 1
def uptoBulkAll {H : Type} : List (DataW H) → Nat
  | [] => 0
  | d :: r => uptoBulk d + uptoBulkAll r
def uptoBulkEntries {H : Type} : List (Lit × DataW H) → Nat
  | [] => 0
  | x :: r => uptoBulkEntry x + uptoBulkEntries r
def uptoBulkEntry {H : Type} : Lit × DataW H → Nat
  | (.string bytes, d) => bytes.length + uptoBulk d + 1
  | (_, d) => uptoBulk d + 1
 end
def uptoSmall : (H : Type) → List (DataW H) → Bool := fun _ ds => decide (uptoBulkAll ds ≤ 1048576)
def OpenSpec.upto (s : _root_.Go.ChangeSpec) : _root_.Go.OpenSpec := { _root_.Go.OpenSpec.ofChange s with cond := some uptoSmall }

/-- 'laws.FnFamilyFrom', WHERE WHAT IT READS IS OF BULK AT MOST 1048576: true; the input reads as it did. -/
def fnFamilyFromUptoRow : OpenClaim := { program := "ytmdmmebekicpkaa", sum := "92612a0a1ffa8e94dab580bfb126ba1ce6de68c69dce95452d04765d974b6f4b", func := "loop.example/failingnets/laws.FnFamilyFrom", spec := "fnFamilyFrom", unfollowed := true, recurses := true, apart := false, narrowed := true }
def FnFamilyFromUptoSaid : Prop := fnFamilyFromUptoRow.holds Try.pinned (OpenSpec.upto fnFamilyFromSpec)

/-- 'laws.FnBothFamilies', WHERE WHAT IT READS IS OF BULK AT MOST 1048576: true; the input reads as it did. -/
def fnBothFamiliesUptoRow : OpenClaim := { program := "ytmdmmebekicpkaa", sum := "92612a0a1ffa8e94dab580bfb126ba1ce6de68c69dce95452d04765d974b6f4b", func := "loop.example/failingnets/laws.FnBothFamilies", spec := "fnBothFamilies", unfollowed := true, recurses := true, apart := false, narrowed := true }
def FnBothFamiliesUptoSaid : Prop := fnBothFamiliesUptoRow.holds Try.pinned (OpenSpec.upto fnBothFamiliesSpec)

/-- 'laws.FnEitherFamily', WHERE WHAT IT READS IS OF BULK AT MOST 1048576: true; the input reads as it did. -/
def fnEitherFamilyUptoRow : OpenClaim := { program := "ytmdmmebekicpkaa", sum := "92612a0a1ffa8e94dab580bfb126ba1ce6de68c69dce95452d04765d974b6f4b", func := "loop.example/failingnets/laws.FnEitherFamily", spec := "fnEitherFamily", unfollowed := true, recurses := true, apart := false, narrowed := true }
def FnEitherFamilyUptoSaid : Prop := fnEitherFamilyUptoRow.holds Try.pinned (OpenSpec.upto fnEitherFamilySpec)

/-- 'laws.FnApartFamilies', WHERE WHAT IT READS IS OF BULK AT MOST 1048576: true; the input reads as it did. -/
def fnApartFamiliesUptoRow : OpenClaim := { program := "ytmdmmebekicpkaa", sum := "92612a0a1ffa8e94dab580bfb126ba1ce6de68c69dce95452d04765d974b6f4b", func := "loop.example/failingnets/laws.FnApartFamilies", spec := "fnApartFamilies", unfollowed := true, recurses := true, apart := false, narrowed := true }
def FnApartFamiliesUptoSaid : Prop := fnApartFamiliesUptoRow.holds Try.pinned (OpenSpec.upto fnApartFamiliesSpec)

/-- 'laws.FnExactBothFamilies', WHERE WHAT IT READS IS OF BULK AT MOST 1048576: true; the input reads as it did. -/
def fnExactBothFamiliesUptoRow : OpenClaim := { program := "ytmdmmebekicpkaa", sum := "92612a0a1ffa8e94dab580bfb126ba1ce6de68c69dce95452d04765d974b6f4b", func := "loop.example/failingnets/laws.FnExactBothFamilies", spec := "fnExactBothFamilies", unfollowed := true, recurses := true, apart := false, narrowed := true }
def FnExactBothFamiliesUptoSaid : Prop := fnExactBothFamiliesUptoRow.holds Try.pinned (OpenSpec.upto fnExactBothFamiliesSpec)

/-- 'laws.FnExactEitherFamily', WHERE WHAT IT READS IS OF BULK AT MOST 1048576: true; the input reads as it did. -/
def fnExactEitherFamilyUptoRow : OpenClaim := { program := "ytmdmmebekicpkaa", sum := "92612a0a1ffa8e94dab580bfb126ba1ce6de68c69dce95452d04765d974b6f4b", func := "loop.example/failingnets/laws.FnExactEitherFamily", spec := "fnExactEitherFamily", unfollowed := true, recurses := true, apart := false, narrowed := true }
def FnExactEitherFamilyUptoSaid : Prop := fnExactEitherFamilyUptoRow.holds Try.pinned (OpenSpec.upto fnExactEitherFamilySpec)

/-- 'laws.FnExactApartFamilies', WHERE WHAT IT READS IS OF BULK AT MOST 1048576: true; the input reads as it did. -/
def fnExactApartFamiliesUptoRow : OpenClaim := { program := "ytmdmmebekicpkaa", sum := "92612a0a1ffa8e94dab580bfb126ba1ce6de68c69dce95452d04765d974b6f4b", func := "loop.example/failingnets/laws.FnExactApartFamilies", spec := "fnExactApartFamilies", unfollowed := true, recurses := true, apart := false, narrowed := true }
def FnExactApartFamiliesUptoSaid : Prop := fnExactApartFamiliesUptoRow.holds Try.pinned (OpenSpec.upto fnExactApartFamiliesSpec)

/-- 'laws.FnExactPathFamily', WHERE WHAT IT READS IS OF BULK AT MOST 1048576: true; the input reads as it did. -/
def fnExactPathFamilyUptoRow : OpenClaim := { program := "ytmdmmebekicpkaa", sum := "92612a0a1ffa8e94dab580bfb126ba1ce6de68c69dce95452d04765d974b6f4b", func := "loop.example/failingnets/laws.FnExactPathFamily", spec := "fnExactPathFamily", unfollowed := true, recurses := true, apart := false, narrowed := true }
def FnExactPathFamilyUptoSaid : Prop := fnExactPathFamilyUptoRow.holds Try.pinned (OpenSpec.upto fnExactPathFamilySpec)

/-- 'laws.FnPathFamily', WHERE WHAT IT READS IS OF BULK AT MOST 1048576: true; the input reads as it did. -/
def fnPathFamilyUptoRow : OpenClaim := { program := "ytmdmmebekicpkaa", sum := "92612a0a1ffa8e94dab580bfb126ba1ce6de68c69dce95452d04765d974b6f4b", func := "loop.example/failingnets/laws.FnPathFamily", spec := "fnPathFamily", unfollowed := true, recurses := true, apart := false, narrowed := true }
def FnPathFamilyUptoSaid : Prop := fnPathFamilyUptoRow.holds Try.pinned (OpenSpec.upto fnPathFamilySpec)

/-- 'laws.FnTwoPathsApart', WHERE WHAT IT READS IS OF BULK AT MOST 1048576: true; the input reads as it did. -/
def fnTwoPathsApartUptoRow : OpenClaim := { program := "ytmdmmebekicpkaa", sum := "92612a0a1ffa8e94dab580bfb126ba1ce6de68c69dce95452d04765d974b6f4b", func := "loop.example/failingnets/laws.FnTwoPathsApart", spec := "fnTwoPathsApart", unfollowed := true, recurses := true, apart := false, narrowed := true }
def FnTwoPathsApartUptoSaid : Prop := fnTwoPathsApartUptoRow.holds Try.pinned (OpenSpec.upto fnTwoPathsApartSpec)

/-- 'laws.FnExactWeightsOk', WHERE WHAT IT READS IS OF BULK AT MOST 1048576: true; the input reads as it did. -/
def fnExactWeightsOkUptoRow : OpenClaim := { program := "ytmdmmebekicpkaa", sum := "92612a0a1ffa8e94dab580bfb126ba1ce6de68c69dce95452d04765d974b6f4b", func := "loop.example/failingnets/laws.FnExactWeightsOk", spec := "fnExactWeightsOk", unfollowed := true, recurses := true, apart := false, narrowed := true }
def FnExactWeightsOkUptoSaid : Prop := fnExactWeightsOkUptoRow.holds Try.pinned (OpenSpec.upto fnExactWeightsOkSpec)

/-- 'laws.FnExactHeavyOf', WHERE WHAT IT READS IS OF BULK AT MOST 1048576: true; the input reads as it did. -/
def fnExactHeavyOfUptoRow : OpenClaim := { program := "ytmdmmebekicpkaa", sum := "92612a0a1ffa8e94dab580bfb126ba1ce6de68c69dce95452d04765d974b6f4b", func := "loop.example/failingnets/laws.FnExactHeavyOf", spec := "fnExactHeavyOf", unfollowed := true, recurses := true, apart := false, narrowed := true }
def FnExactHeavyOfUptoSaid : Prop := fnExactHeavyOfUptoRow.holds Try.pinned (OpenSpec.upto fnExactHeavyOfSpec)

end Rows
end Go.Proofs.Ytmdmmebekicpkaa
