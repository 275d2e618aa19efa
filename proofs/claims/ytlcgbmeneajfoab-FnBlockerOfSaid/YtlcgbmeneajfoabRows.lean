/-
  No cell of these rows narrows 'for every input' (looked for: loops, veiled, ifaces, maps, wideKeys, modest, calm, conditions, laid).
  DERIVED. THE GIVEN ROWS OF THIS SEAT. 11 by the template 'for every input the law returns true; each argument reads behind the call as it read before'; 0 by the template 'total and deterministic' (their statements: YtlcgbmeneajfoabTotals.lean).
  GIVEN WITH THE SEED: the statements are not yours to turn. If you find one false, say at which input.
  Laid BY PROGRAM, IN A SANDBOX (cutbox-rows.mjs): the forced cells as the released guide's own fill.sh prints them over the translation 682be1df3b4de805… (all of the seat's roots in one cut). By AI agents, Wed Nov 11 2026. No macro, syntax, notation, axiom, sorry.
-/
import Derived.Test.YtlcgbmeneajfoabChecked
import GoSem.Claim
import GoSem.ClaimJoined
import GoSem.ClaimMapViews
import Derived.JoinedTies
import Derived.KernelRfl
namespace Go.Proofs.Ytlcgbmeneajfoab
/- THE CELL 'sum', in the pinned program and in every row, IS THE sha256 OF THE DUMP (.gsa) THAT YtlcgbmeneajfoabProg.lean LOADS. Nothing in Lean hashes anything: it is a label: what it is worth is what the hold of that sum in a sandbox is worth. -/
noncomputable def Try.pinned : Pinned := { name := "ytlcgbmeneajfoab", sum := "682be1df3b4de805d84a9e8c57478cb0459030d9322cd5c3142b384c137fcedc", checked := Try.checked }
namespace Rows
def none {H : Type} : Left H := { results := [], args := [] }

/-- 'laws.FnCountIn': WHATEVER THE INPUT: true; the input reads as it did. -/
def fnCountInSpec : ChangeSpec := { name := "fnCountIn", fn := fun _ => fun
  | [d] => { results := [.lit (.bool true)], args := [d] }
  | _ => none }
def fnCountInRow : OpenClaim := { program := "ytlcgbmeneajfoab", sum := "682be1df3b4de805d84a9e8c57478cb0459030d9322cd5c3142b384c137fcedc", func := "loop.example/failingnets/laws.FnCountIn", spec := "fnCountIn", unfollowed := true, recurses := true, apart := false }
def FnCountInSaid : Prop := fnCountInRow.holds Try.pinned (OpenSpec.ofChange fnCountInSpec)

/-- ITS FALSE NEIGHBOUR: 'it returns false'. Refute it at one input. -/
def fnCountInWrong : ChangeSpec := { name := "fnCountIn", fn := fun _ => fun
  | [d] => { results := [.lit (.bool false)], args := [d] }
  | _ => none }
def FnCountInWrongFalsely : Prop := fnCountInRow.holds Try.pinned (OpenSpec.ofChange fnCountInWrong)

/-- 'laws.FnBlockerOf': WHATEVER THE INPUT: true; the input reads as it did. -/
def fnBlockerOfSpec : ChangeSpec := { name := "fnBlockerOf", fn := fun _ => fun
  | [d] => { results := [.lit (.bool true)], args := [d] }
  | _ => none }
def fnBlockerOfRow : OpenClaim := { program := "ytlcgbmeneajfoab", sum := "682be1df3b4de805d84a9e8c57478cb0459030d9322cd5c3142b384c137fcedc", func := "loop.example/failingnets/laws.FnBlockerOf", spec := "fnBlockerOf", unfollowed := true, recurses := true, apart := false }
def FnBlockerOfSaid : Prop := fnBlockerOfRow.holds Try.pinned (OpenSpec.ofChange fnBlockerOfSpec)

/-- ITS FALSE NEIGHBOUR: 'it returns false'. Refute it at one input. -/
def fnBlockerOfWrong : ChangeSpec := { name := "fnBlockerOf", fn := fun _ => fun
  | [d] => { results := [.lit (.bool false)], args := [d] }
  | _ => none }
def FnBlockerOfWrongFalsely : Prop := fnBlockerOfRow.holds Try.pinned (OpenSpec.ofChange fnBlockerOfWrong)

/-- 'laws.FnBothFamilies': WHATEVER THE INPUT: true; the input reads as it did. -/
def fnBothFamiliesSpec : ChangeSpec := { name := "fnBothFamilies", fn := fun _ => fun
  | [d] => { results := [.lit (.bool true)], args := [d] }
  | _ => none }
def fnBothFamiliesRow : OpenClaim := { program := "ytlcgbmeneajfoab", sum := "682be1df3b4de805d84a9e8c57478cb0459030d9322cd5c3142b384c137fcedc", func := "loop.example/failingnets/laws.FnBothFamilies", spec := "fnBothFamilies", unfollowed := true, recurses := true, apart := false }
def FnBothFamiliesSaid : Prop := fnBothFamiliesRow.holds Try.pinned (OpenSpec.ofChange fnBothFamiliesSpec)

/-- ITS FALSE NEIGHBOUR: 'it returns false'. Refute it at one input. -/
def fnBothFamiliesWrong : ChangeSpec := { name := "fnBothFamilies", fn := fun _ => fun
  | [d] => { results := [.lit (.bool false)], args := [d] }
  | _ => none }
def FnBothFamiliesWrongFalsely : Prop := fnBothFamiliesRow.holds Try.pinned (OpenSpec.ofChange fnBothFamiliesWrong)

/-- 'laws.FnEitherFamily': WHATEVER THE INPUT: true; the input reads as it did. -/
def fnEitherFamilySpec : ChangeSpec := { name := "fnEitherFamily", fn := fun _ => fun
  | [d] => { results := [.lit (.bool true)], args := [d] }
  | _ => none }
def fnEitherFamilyRow : OpenClaim := { program := "ytlcgbmeneajfoab", sum := "682be1df3b4de805d84a9e8c57478cb0459030d9322cd5c3142b384c137fcedc", func := "loop.example/failingnets/laws.FnEitherFamily", spec := "fnEitherFamily", unfollowed := true, recurses := true, apart := false }
def FnEitherFamilySaid : Prop := fnEitherFamilyRow.holds Try.pinned (OpenSpec.ofChange fnEitherFamilySpec)

/-- ITS FALSE NEIGHBOUR: 'it returns false'. Refute it at one input. -/
def fnEitherFamilyWrong : ChangeSpec := { name := "fnEitherFamily", fn := fun _ => fun
  | [d] => { results := [.lit (.bool false)], args := [d] }
  | _ => none }
def FnEitherFamilyWrongFalsely : Prop := fnEitherFamilyRow.holds Try.pinned (OpenSpec.ofChange fnEitherFamilyWrong)

/-- 'laws.FnApartFamilies': WHATEVER THE INPUT: true; the input reads as it did. -/
def fnApartFamiliesSpec : ChangeSpec := { name := "fnApartFamilies", fn := fun _ => fun
  | [d] => { results := [.lit (.bool true)], args := [d] }
  | _ => none }
def fnApartFamiliesRow : OpenClaim := { program := "ytlcgbmeneajfoab", sum := "682be1df3b4de805d84a9e8c57478cb0459030d9322cd5c3142b384c137fcedc", func := "loop.example/failingnets/laws.FnApartFamilies", spec := "fnApartFamilies", unfollowed := true, recurses := true, apart := false }
def FnApartFamiliesSaid : Prop := fnApartFamiliesRow.holds Try.pinned (OpenSpec.ofChange fnApartFamiliesSpec)

/-- ITS FALSE NEIGHBOUR: 'it returns false'. Refute it at one input. -/
def fnApartFamiliesWrong : ChangeSpec := { name := "fnApartFamilies", fn := fun _ => fun
  | [d] => { results := [.lit (.bool false)], args := [d] }
  | _ => none }
def FnApartFamiliesWrongFalsely : Prop := fnApartFamiliesRow.holds Try.pinned (OpenSpec.ofChange fnApartFamiliesWrong)

/-- 'laws.FnExactPathFamily': WHATEVER THE INPUT: true; the input reads as it did. -/
def fnExactPathFamilySpec : ChangeSpec := { name := "fnExactPathFamily", fn := fun _ => fun
  | [d1, d2, d3] => { results := [.lit (.bool true)], args := [d1, d2, d3] }
  | _ => none }
def fnExactPathFamilyRow : OpenClaim := { program := "ytlcgbmeneajfoab", sum := "682be1df3b4de805d84a9e8c57478cb0459030d9322cd5c3142b384c137fcedc", func := "loop.example/failingnets/laws.FnExactPathFamily", spec := "fnExactPathFamily", unfollowed := true, recurses := true, apart := false }
def FnExactPathFamilySaid : Prop := fnExactPathFamilyRow.holds Try.pinned (OpenSpec.ofChange fnExactPathFamilySpec)

/-- ITS FALSE NEIGHBOUR: 'it returns false'. Refute it at one input. -/
def fnExactPathFamilyWrong : ChangeSpec := { name := "fnExactPathFamily", fn := fun _ => fun
  | [d1, d2, d3] => { results := [.lit (.bool false)], args := [d1, d2, d3] }
  | _ => none }
def FnExactPathFamilyWrongFalsely : Prop := fnExactPathFamilyRow.holds Try.pinned (OpenSpec.ofChange fnExactPathFamilyWrong)

/-- 'laws.FnPathFamily': WHATEVER THE INPUT: true; the input reads as it did. -/
def fnPathFamilySpec : ChangeSpec := { name := "fnPathFamily", fn := fun _ => fun
  | [d] => { results := [.lit (.bool true)], args := [d] }
  | _ => none }
def fnPathFamilyRow : OpenClaim := { program := "ytlcgbmeneajfoab", sum := "682be1df3b4de805d84a9e8c57478cb0459030d9322cd5c3142b384c137fcedc", func := "loop.example/failingnets/laws.FnPathFamily", spec := "fnPathFamily", unfollowed := true, recurses := true, apart := false }
def FnPathFamilySaid : Prop := fnPathFamilyRow.holds Try.pinned (OpenSpec.ofChange fnPathFamilySpec)

/-- ITS FALSE NEIGHBOUR: 'it returns false'. Refute it at one input. -/
def fnPathFamilyWrong : ChangeSpec := { name := "fnPathFamily", fn := fun _ => fun
  | [d] => { results := [.lit (.bool false)], args := [d] }
  | _ => none }
def FnPathFamilyWrongFalsely : Prop := fnPathFamilyRow.holds Try.pinned (OpenSpec.ofChange fnPathFamilyWrong)

/-- 'laws.FnTwoPathsApart': WHATEVER THE INPUT: true; the input reads as it did. -/
def fnTwoPathsApartSpec : ChangeSpec := { name := "fnTwoPathsApart", fn := fun _ => fun
  | [d] => { results := [.lit (.bool true)], args := [d] }
  | _ => none }
def fnTwoPathsApartRow : OpenClaim := { program := "ytlcgbmeneajfoab", sum := "682be1df3b4de805d84a9e8c57478cb0459030d9322cd5c3142b384c137fcedc", func := "loop.example/failingnets/laws.FnTwoPathsApart", spec := "fnTwoPathsApart", unfollowed := true, recurses := true, apart := false }
def FnTwoPathsApartSaid : Prop := fnTwoPathsApartRow.holds Try.pinned (OpenSpec.ofChange fnTwoPathsApartSpec)

/-- ITS FALSE NEIGHBOUR: 'it returns false'. Refute it at one input. -/
def fnTwoPathsApartWrong : ChangeSpec := { name := "fnTwoPathsApart", fn := fun _ => fun
  | [d] => { results := [.lit (.bool false)], args := [d] }
  | _ => none }
def FnTwoPathsApartWrongFalsely : Prop := fnTwoPathsApartRow.holds Try.pinned (OpenSpec.ofChange fnTwoPathsApartWrong)

/-- 'laws.FnPathsOf': WHATEVER THE INPUT: true; the input reads as it did. -/
def fnPathsOfSpec : ChangeSpec := { name := "fnPathsOf", fn := fun _ => fun
  | [d1, d2] => { results := [.lit (.bool true)], args := [d1, d2] }
  | _ => none }
def fnPathsOfRow : OpenClaim := { program := "ytlcgbmeneajfoab", sum := "682be1df3b4de805d84a9e8c57478cb0459030d9322cd5c3142b384c137fcedc", func := "loop.example/failingnets/laws.FnPathsOf", spec := "fnPathsOf", unfollowed := true, recurses := true, apart := false }
def FnPathsOfSaid : Prop := fnPathsOfRow.holds Try.pinned (OpenSpec.ofChange fnPathsOfSpec)

/-- ITS FALSE NEIGHBOUR: 'it returns false'. Refute it at one input. -/
def fnPathsOfWrong : ChangeSpec := { name := "fnPathsOf", fn := fun _ => fun
  | [d1, d2] => { results := [.lit (.bool false)], args := [d1, d2] }
  | _ => none }
def FnPathsOfWrongFalsely : Prop := fnPathsOfRow.holds Try.pinned (OpenSpec.ofChange fnPathsOfWrong)

/-- 'laws.FnExactPathsOf': WHATEVER THE INPUT: true; the input reads as it did. -/
def fnExactPathsOfSpec : ChangeSpec := { name := "fnExactPathsOf", fn := fun _ => fun
  | [d1, d2, d3] => { results := [.lit (.bool true)], args := [d1, d2, d3] }
  | _ => none }
def fnExactPathsOfRow : OpenClaim := { program := "ytlcgbmeneajfoab", sum := "682be1df3b4de805d84a9e8c57478cb0459030d9322cd5c3142b384c137fcedc", func := "loop.example/failingnets/laws.FnExactPathsOf", spec := "fnExactPathsOf", unfollowed := true, recurses := true, apart := false }
def FnExactPathsOfSaid : Prop := fnExactPathsOfRow.holds Try.pinned (OpenSpec.ofChange fnExactPathsOfSpec)

/-- ITS FALSE NEIGHBOUR: 'it returns false'. Refute it at one input. -/
def fnExactPathsOfWrong : ChangeSpec := { name := "fnExactPathsOf", fn := fun _ => fun
  | [d1, d2, d3] => { results := [.lit (.bool false)], args := [d1, d2, d3] }
  | _ => none }
def FnExactPathsOfWrongFalsely : Prop := fnExactPathsOfRow.holds Try.pinned (OpenSpec.ofChange fnExactPathsOfWrong)

/-- 'laws.FnCutsOf': WHATEVER THE INPUT: true; the input reads as it did. -/
def fnCutsOfSpec : ChangeSpec := { name := "fnCutsOf", fn := fun _ => fun
  | [d1, d2] => { results := [.lit (.bool true)], args := [d1, d2] }
  | _ => none }
def fnCutsOfRow : OpenClaim := { program := "ytlcgbmeneajfoab", sum := "682be1df3b4de805d84a9e8c57478cb0459030d9322cd5c3142b384c137fcedc", func := "loop.example/failingnets/laws.FnCutsOf", spec := "fnCutsOf", unfollowed := true, recurses := true, apart := false }
def FnCutsOfSaid : Prop := fnCutsOfRow.holds Try.pinned (OpenSpec.ofChange fnCutsOfSpec)

/-- ITS FALSE NEIGHBOUR: 'it returns false'. Refute it at one input. -/
def fnCutsOfWrong : ChangeSpec := { name := "fnCutsOf", fn := fun _ => fun
  | [d1, d2] => { results := [.lit (.bool false)], args := [d1, d2] }
  | _ => none }
def FnCutsOfWrongFalsely : Prop := fnCutsOfRow.holds Try.pinned (OpenSpec.ofChange fnCutsOfWrong)

/- THE SECOND FORM. 'bulk': how many values and letters a reading holds, each counted each time it is reached (what is shared counts as often as it is met; a slice's spare places count too). A statement '..UptoSaid' is the law's where the arguments, and the package variables that the reading takes, are together of bulk at most 1048576: NARROWER than '..Said'. Prove '..Said' where nothing that the law and all that it calls make is longer than what came in: it says more and counts as full. Else prove '..UptoSaid'. A law counts once. -/
mutual
def uptoBulk {H : Type} : DataW H → Nat
  | .lit (.string bytes) => bytes.length + 1
  | .lit _ => 1
  | .nil => 1
  | .ptr d => uptoBulk d + 1
  | .slice elems spare => uptoBulkAll elems + uptoBulkAll spare + 1
  | .agg parts => uptoBulkAll parts + 1
  | .iface _ d => uptoBulk d + 1
  | .map entries => uptoBulkEntries entries + 1
  | .held _ => 1
def uptoBulkAll {H : Type} : List (DataW H) → Nat
  | [] => 0
  | d :: r => uptoBulk d + uptoBulkAll r
def uptoBulkEntries {H : Type} : List (Lit × DataW H) → Nat
  | [] => 0
  | x :: r => uptoBulkEntry x + uptoBulkEntries r
def uptoBulkEntry {H : Type} : Lit × DataW H → Nat
  | (.string bytes, d) => bytes.length + uptoBulk d + 1
  | (_, d) => uptoBulk d + 1
 end
def uptoSmall : (H : Type) → List (DataW H) → Bool := fun _ ds => decide (uptoBulkAll ds ≤ 1048576)
def OpenSpec.upto (s : _root_.Go.ChangeSpec) : _root_.Go.OpenSpec := { _root_.Go.OpenSpec.ofChange s with cond := some uptoSmall }

/-- 'laws.FnCountIn', WHERE WHAT IT READS IS OF BULK AT MOST 1048576: true; the input reads as it did. -/
def fnCountInUptoRow : OpenClaim := { program := "ytlcgbmeneajfoab", sum := "682be1df3b4de805d84a9e8c57478cb0459030d9322cd5c3142b384c137fcedc", func := "loop.example/failingnets/laws.FnCountIn", spec := "fnCountIn", unfollowed := true, recurses := true, apart := false, narrowed := true }
def FnCountInUptoSaid : Prop := fnCountInUptoRow.holds Try.pinned (OpenSpec.upto fnCountInSpec)

/-- 'laws.FnBlockerOf', WHERE WHAT IT READS IS OF BULK AT MOST 1048576: true; the input reads as it did. -/
def fnBlockerOfUptoRow : OpenClaim := { program := "ytlcgbmeneajfoab", sum := "682be1df3b4de805d84a9e8c57478cb0459030d9322cd5c3142b384c137fcedc", func := "loop.example/failingnets/laws.FnBlockerOf", spec := "fnBlockerOf", unfollowed := true, recurses := true, apart := false, narrowed := true }
def FnBlockerOfUptoSaid : Prop := fnBlockerOfUptoRow.holds Try.pinned (OpenSpec.upto fnBlockerOfSpec)

/-- 'laws.FnBothFamilies', WHERE WHAT IT READS IS OF BULK AT MOST 1048576: true; the input reads as it did. -/
def fnBothFamiliesUptoRow : OpenClaim := { program := "ytlcgbmeneajfoab", sum := "682be1df3b4de805d84a9e8c57478cb0459030d9322cd5c3142b384c137fcedc", func := "loop.example/failingnets/laws.FnBothFamilies", spec := "fnBothFamilies", unfollowed := true, recurses := true, apart := false, narrowed := true }
def FnBothFamiliesUptoSaid : Prop := fnBothFamiliesUptoRow.holds Try.pinned (OpenSpec.upto fnBothFamiliesSpec)

/-- 'laws.FnEitherFamily', WHERE WHAT IT READS IS OF BULK AT MOST 1048576: true; the input reads as it did. -/
def fnEitherFamilyUptoRow : OpenClaim := { program := "ytlcgbmeneajfoab", sum := "682be1df3b4de805d84a9e8c57478cb0459030d9322cd5c3142b384c137fcedc", func := "loop.example/failingnets/laws.FnEitherFamily", spec := "fnEitherFamily", unfollowed := true, recurses := true, apart := false, narrowed := true }
def FnEitherFamilyUptoSaid : Prop := fnEitherFamilyUptoRow.holds Try.pinned (OpenSpec.upto fnEitherFamilySpec)

/-- 'laws.FnApartFamilies', WHERE WHAT IT READS IS OF BULK AT MOST 1048576: true; the input reads as it did. -/
def fnApartFamiliesUptoRow : OpenClaim := { program := "ytlcgbmeneajfoab", sum := "682be1df3b4de805d84a9e8c57478cb0459030d9322cd5c3142b384c137fcedc", func := "loop.example/failingnets/laws.FnApartFamilies", spec := "fnApartFamilies", unfollowed := true, recurses := true, apart := false, narrowed := true }
def FnApartFamiliesUptoSaid : Prop := fnApartFamiliesUptoRow.holds Try.pinned (OpenSpec.upto fnApartFamiliesSpec)

/-- 'laws.FnExactPathFamily', WHERE WHAT IT READS IS OF BULK AT MOST 1048576: true; the input reads as it did. -/
def fnExactPathFamilyUptoRow : OpenClaim := { program := "ytlcgbmeneajfoab", sum := "682be1df3b4de805d84a9e8c57478cb0459030d9322cd5c3142b384c137fcedc", func := "loop.example/failingnets/laws.FnExactPathFamily", spec := "fnExactPathFamily", unfollowed := true, recurses := true, apart := false, narrowed := true }
def FnExactPathFamilyUptoSaid : Prop := fnExactPathFamilyUptoRow.holds Try.pinned (OpenSpec.upto fnExactPathFamilySpec)

/-- 'laws.FnPathFamily', WHERE WHAT IT READS IS OF BULK AT MOST 1048576: true; the input reads as it did. -/
def fnPathFamilyUptoRow : OpenClaim := { program := "ytlcgbmeneajfoab", sum := "682be1df3b4de805d84a9e8c57478cb0459030d9322cd5c3142b384c137fcedc", func := "loop.example/failingnets/laws.FnPathFamily", spec := "fnPathFamily", unfollowed := true, recurses := true, apart := false, narrowed := true }
def FnPathFamilyUptoSaid : Prop := fnPathFamilyUptoRow.holds Try.pinned (OpenSpec.upto fnPathFamilySpec)

/-- 'laws.FnTwoPathsApart', WHERE WHAT IT READS IS OF BULK AT MOST 1048576: true; the input reads as it did. -/
def fnTwoPathsApartUptoRow : OpenClaim := { program := "ytlcgbmeneajfoab", sum := "682be1df3b4de805d84a9e8c57478cb0459030d9322cd5c3142b384c137fcedc", func := "loop.example/failingnets/laws.FnTwoPathsApart", spec := "fnTwoPathsApart", unfollowed := true, recurses := true, apart := false, narrowed := true }
def FnTwoPathsApartUptoSaid : Prop := fnTwoPathsApartUptoRow.holds Try.pinned (OpenSpec.upto fnTwoPathsApartSpec)

/-- 'laws.FnPathsOf', WHERE WHAT IT READS IS OF BULK AT MOST 1048576: true; the input reads as it did. -/
def fnPathsOfUptoRow : OpenClaim := { program := "ytlcgbmeneajfoab", sum := "682be1df3b4de805d84a9e8c57478cb0459030d9322cd5c3142b384c137fcedc", func := "loop.example/failingnets/laws.FnPathsOf", spec := "fnPathsOf", unfollowed := true, recurses := true, apart := false, narrowed := true }
def FnPathsOfUptoSaid : Prop := fnPathsOfUptoRow.holds Try.pinned (OpenSpec.upto fnPathsOfSpec)

/-- 'laws.FnExactPathsOf', WHERE WHAT IT READS IS OF BULK AT MOST 1048576: true; the input reads as it did. -/
def fnExactPathsOfUptoRow : OpenClaim := { program := "ytlcgbmeneajfoab", sum := "682be1df3b4de805d84a9e8c57478cb0459030d9322cd5c3142b384c137fcedc", func := "loop.example/failingnets/laws.FnExactPathsOf", spec := "fnExactPathsOf", unfollowed := true, recurses := true, apart := false, narrowed := true }
def FnExactPathsOfUptoSaid : Prop := fnExactPathsOfUptoRow.holds Try.pinned (OpenSpec.upto fnExactPathsOfSpec)

/-- 'laws.FnCutsOf', WHERE WHAT IT READS IS OF BULK AT MOST 1048576: true; the input reads as it did. -/
def fnCutsOfUptoRow : OpenClaim := { program := "ytlcgbmeneajfoab", sum := "682be1df3b4de805d84a9e8c57478cb0459030d9322cd5c3142b384c137fcedc", func := "loop.example/failingnets/laws.FnCutsOf", spec := "fnCutsOf", unfollowed := true, recurses := true, apart := false, narrowed := true }
def FnCutsOfUptoSaid : Prop := fnCutsOfUptoRow.holds Try.pinned (OpenSpec.upto fnCutsOfSpec)

end Rows
end Go.Proofs.Ytlcgbmeneajfoab
