/-
  No cell of these rows narrows 'for every input' (looked for: loops, veiled, ifaces, maps, wideKeys, modest, calm, conditions, laid).
  DERIVED. THE GIVEN ROWS OF THIS SEAT. 11 by the template 'for every input the law returns true; each argument reads behind the call as it read before'; 0 by the template 'total and deterministic' (their statements: YtlcgbmeneajfoaaTotals.lean).
  GIVEN WITH THE SEED: the statements are not yours to turn. If you find one false, say at which input.
  Laid BY PROGRAM, IN A SANDBOX (cutbox-rows.mjs): the forced cells as the released guide's own fill.sh prints them over the translation eecdcd40acb28574… (all of the seat's roots in one cut). By AI agents, Wed Nov 11 2026. No macro, syntax, notation, axiom, sorry.
-/
import Derived.Test.YtlcgbmeneajfoaaChecked
import GoSem.Claim
import GoSem.ClaimJoined
import GoSem.ClaimMapViews
import Derived.JoinedTies
import Derived.KernelRfl
namespace Go.Proofs.Ytlcgbmeneajfoaa
/- THE CELL 'sum', in the pinned program and in every row, IS THE sha256 OF THE DUMP (.gsa) THAT YtlcgbmeneajfoaaProg.lean LOADS. Nothing in Lean hashes anything: it is a label: what it is worth is what the hold of that sum in a sandbox is worth. -/
noncomputable def Try.pinned : Pinned := { name := "ytlcgbmeneajfoaa", sum := "eecdcd40acb2857414161b9aeaed9e21aea4f811884d88f107787d30fa1ea546", checked := Try.checked }
namespace Rows
def none {H : Type} : Left H := { results := [], args := [] }

/-- 'laws.FnExactFamilyOk': WHATEVER THE INPUT: true; the input reads as it did. -/
def fnExactFamilyOkSpec : ChangeSpec := { name := "fnExactFamilyOk", fn := fun _ => fun
  | [d] => { results := [.lit (.bool true)], args := [d] }
  | _ => none }
def fnExactFamilyOkRow : OpenClaim := { program := "ytlcgbmeneajfoaa", sum := "eecdcd40acb2857414161b9aeaed9e21aea4f811884d88f107787d30fa1ea546", func := "loop.example/failingnets/laws.FnExactFamilyOk", spec := "fnExactFamilyOk", unfollowed := true, recurses := true, apart := false }
def FnExactFamilyOkSaid : Prop := fnExactFamilyOkRow.holds Try.pinned (OpenSpec.ofChange fnExactFamilyOkSpec)

/-- ITS FALSE NEIGHBOUR: 'it returns false'. Refute it at one input. -/
def fnExactFamilyOkWrong : ChangeSpec := { name := "fnExactFamilyOk", fn := fun _ => fun
  | [d] => { results := [.lit (.bool false)], args := [d] }
  | _ => none }
def FnExactFamilyOkWrongFalsely : Prop := fnExactFamilyOkRow.holds Try.pinned (OpenSpec.ofChange fnExactFamilyOkWrong)

/-- 'laws.FnExactInOk': WHATEVER THE INPUT: true; the input reads as it did. -/
def fnExactInOkSpec : ChangeSpec := { name := "fnExactInOk", fn := fun _ => fun
  | [d1, d2] => { results := [.lit (.bool true)], args := [d1, d2] }
  | _ => none }
def fnExactInOkRow : OpenClaim := { program := "ytlcgbmeneajfoaa", sum := "eecdcd40acb2857414161b9aeaed9e21aea4f811884d88f107787d30fa1ea546", func := "loop.example/failingnets/laws.FnExactInOk", spec := "fnExactInOk", unfollowed := true, recurses := true, apart := false }
def FnExactInOkSaid : Prop := fnExactInOkRow.holds Try.pinned (OpenSpec.ofChange fnExactInOkSpec)

/-- ITS FALSE NEIGHBOUR: 'it returns false'. Refute it at one input. -/
def fnExactInOkWrong : ChangeSpec := { name := "fnExactInOk", fn := fun _ => fun
  | [d1, d2] => { results := [.lit (.bool false)], args := [d1, d2] }
  | _ => none }
def FnExactInOkWrongFalsely : Prop := fnExactInOkRow.holds Try.pinned (OpenSpec.ofChange fnExactInOkWrong)

/-- 'laws.FnExactFamilyFrom': WHATEVER THE INPUT: true; the input reads as it did. -/
def fnExactFamilyFromSpec : ChangeSpec := { name := "fnExactFamilyFrom", fn := fun _ => fun
  | [d1, d2] => { results := [.lit (.bool true)], args := [d1, d2] }
  | _ => none }
def fnExactFamilyFromRow : OpenClaim := { program := "ytlcgbmeneajfoaa", sum := "eecdcd40acb2857414161b9aeaed9e21aea4f811884d88f107787d30fa1ea546", func := "loop.example/failingnets/laws.FnExactFamilyFrom", spec := "fnExactFamilyFrom", unfollowed := true, recurses := true, apart := false }
def FnExactFamilyFromSaid : Prop := fnExactFamilyFromRow.holds Try.pinned (OpenSpec.ofChange fnExactFamilyFromSpec)

/-- ITS FALSE NEIGHBOUR: 'it returns false'. Refute it at one input. -/
def fnExactFamilyFromWrong : ChangeSpec := { name := "fnExactFamilyFrom", fn := fun _ => fun
  | [d1, d2] => { results := [.lit (.bool false)], args := [d1, d2] }
  | _ => none }
def FnExactFamilyFromWrongFalsely : Prop := fnExactFamilyFromRow.holds Try.pinned (OpenSpec.ofChange fnExactFamilyFromWrong)

/-- 'laws.FnExactCountIn': WHATEVER THE INPUT: true; the input reads as it did. -/
def fnExactCountInSpec : ChangeSpec := { name := "fnExactCountIn", fn := fun _ => fun
  | [d] => { results := [.lit (.bool true)], args := [d] }
  | _ => none }
def fnExactCountInRow : OpenClaim := { program := "ytlcgbmeneajfoaa", sum := "eecdcd40acb2857414161b9aeaed9e21aea4f811884d88f107787d30fa1ea546", func := "loop.example/failingnets/laws.FnExactCountIn", spec := "fnExactCountIn", unfollowed := true, recurses := true, apart := false }
def FnExactCountInSaid : Prop := fnExactCountInRow.holds Try.pinned (OpenSpec.ofChange fnExactCountInSpec)

/-- ITS FALSE NEIGHBOUR: 'it returns false'. Refute it at one input. -/
def fnExactCountInWrong : ChangeSpec := { name := "fnExactCountIn", fn := fun _ => fun
  | [d] => { results := [.lit (.bool false)], args := [d] }
  | _ => none }
def FnExactCountInWrongFalsely : Prop := fnExactCountInRow.holds Try.pinned (OpenSpec.ofChange fnExactCountInWrong)

/-- 'laws.FnExactBlockerOf': WHATEVER THE INPUT: true; the input reads as it did. -/
def fnExactBlockerOfSpec : ChangeSpec := { name := "fnExactBlockerOf", fn := fun _ => fun
  | [d] => { results := [.lit (.bool true)], args := [d] }
  | _ => none }
def fnExactBlockerOfRow : OpenClaim := { program := "ytlcgbmeneajfoaa", sum := "eecdcd40acb2857414161b9aeaed9e21aea4f811884d88f107787d30fa1ea546", func := "loop.example/failingnets/laws.FnExactBlockerOf", spec := "fnExactBlockerOf", unfollowed := true, recurses := true, apart := false }
def FnExactBlockerOfSaid : Prop := fnExactBlockerOfRow.holds Try.pinned (OpenSpec.ofChange fnExactBlockerOfSpec)

/-- ITS FALSE NEIGHBOUR: 'it returns false'. Refute it at one input. -/
def fnExactBlockerOfWrong : ChangeSpec := { name := "fnExactBlockerOf", fn := fun _ => fun
  | [d] => { results := [.lit (.bool false)], args := [d] }
  | _ => none }
def FnExactBlockerOfWrongFalsely : Prop := fnExactBlockerOfRow.holds Try.pinned (OpenSpec.ofChange fnExactBlockerOfWrong)

/-- 'laws.FnExactBothFamilies': WHATEVER THE INPUT: true; the input reads as it did. -/
def fnExactBothFamiliesSpec : ChangeSpec := { name := "fnExactBothFamilies", fn := fun _ => fun
  | [d1, d2] => { results := [.lit (.bool true)], args := [d1, d2] }
  | _ => none }
def fnExactBothFamiliesRow : OpenClaim := { program := "ytlcgbmeneajfoaa", sum := "eecdcd40acb2857414161b9aeaed9e21aea4f811884d88f107787d30fa1ea546", func := "loop.example/failingnets/laws.FnExactBothFamilies", spec := "fnExactBothFamilies", unfollowed := true, recurses := true, apart := false }
def FnExactBothFamiliesSaid : Prop := fnExactBothFamiliesRow.holds Try.pinned (OpenSpec.ofChange fnExactBothFamiliesSpec)

/-- ITS FALSE NEIGHBOUR: 'it returns false'. Refute it at one input. -/
def fnExactBothFamiliesWrong : ChangeSpec := { name := "fnExactBothFamilies", fn := fun _ => fun
  | [d1, d2] => { results := [.lit (.bool false)], args := [d1, d2] }
  | _ => none }
def FnExactBothFamiliesWrongFalsely : Prop := fnExactBothFamiliesRow.holds Try.pinned (OpenSpec.ofChange fnExactBothFamiliesWrong)

/-- 'laws.FnExactEitherFamily': WHATEVER THE INPUT: true; the input reads as it did. -/
def fnExactEitherFamilySpec : ChangeSpec := { name := "fnExactEitherFamily", fn := fun _ => fun
  | [d1, d2] => { results := [.lit (.bool true)], args := [d1, d2] }
  | _ => none }
def fnExactEitherFamilyRow : OpenClaim := { program := "ytlcgbmeneajfoaa", sum := "eecdcd40acb2857414161b9aeaed9e21aea4f811884d88f107787d30fa1ea546", func := "loop.example/failingnets/laws.FnExactEitherFamily", spec := "fnExactEitherFamily", unfollowed := true, recurses := true, apart := false }
def FnExactEitherFamilySaid : Prop := fnExactEitherFamilyRow.holds Try.pinned (OpenSpec.ofChange fnExactEitherFamilySpec)

/-- ITS FALSE NEIGHBOUR: 'it returns false'. Refute it at one input. -/
def fnExactEitherFamilyWrong : ChangeSpec := { name := "fnExactEitherFamily", fn := fun _ => fun
  | [d1, d2] => { results := [.lit (.bool false)], args := [d1, d2] }
  | _ => none }
def FnExactEitherFamilyWrongFalsely : Prop := fnExactEitherFamilyRow.holds Try.pinned (OpenSpec.ofChange fnExactEitherFamilyWrong)

/-- 'laws.FnExactApartFamilies': WHATEVER THE INPUT: true; the input reads as it did. -/
def fnExactApartFamiliesSpec : ChangeSpec := { name := "fnExactApartFamilies", fn := fun _ => fun
  | [d1, d2] => { results := [.lit (.bool true)], args := [d1, d2] }
  | _ => none }
def fnExactApartFamiliesRow : OpenClaim := { program := "ytlcgbmeneajfoaa", sum := "eecdcd40acb2857414161b9aeaed9e21aea4f811884d88f107787d30fa1ea546", func := "loop.example/failingnets/laws.FnExactApartFamilies", spec := "fnExactApartFamilies", unfollowed := true, recurses := true, apart := false }
def FnExactApartFamiliesSaid : Prop := fnExactApartFamiliesRow.holds Try.pinned (OpenSpec.ofChange fnExactApartFamiliesSpec)

/-- ITS FALSE NEIGHBOUR: 'it returns false'. Refute it at one input. -/
def fnExactApartFamiliesWrong : ChangeSpec := { name := "fnExactApartFamilies", fn := fun _ => fun
  | [d1, d2] => { results := [.lit (.bool false)], args := [d1, d2] }
  | _ => none }
def FnExactApartFamiliesWrongFalsely : Prop := fnExactApartFamiliesRow.holds Try.pinned (OpenSpec.ofChange fnExactApartFamiliesWrong)

/-- 'laws.FnFamilyOk': WHATEVER THE INPUT: true; the input reads as it did. -/
def fnFamilyOkSpec : ChangeSpec := { name := "fnFamilyOk", fn := fun _ => fun
  | [d] => { results := [.lit (.bool true)], args := [d] }
  | _ => none }
def fnFamilyOkRow : OpenClaim := { program := "ytlcgbmeneajfoaa", sum := "eecdcd40acb2857414161b9aeaed9e21aea4f811884d88f107787d30fa1ea546", func := "loop.example/failingnets/laws.FnFamilyOk", spec := "fnFamilyOk", unfollowed := true, recurses := true, apart := false }
def FnFamilyOkSaid : Prop := fnFamilyOkRow.holds Try.pinned (OpenSpec.ofChange fnFamilyOkSpec)

/-- ITS FALSE NEIGHBOUR: 'it returns false'. Refute it at one input. -/
def fnFamilyOkWrong : ChangeSpec := { name := "fnFamilyOk", fn := fun _ => fun
  | [d] => { results := [.lit (.bool false)], args := [d] }
  | _ => none }
def FnFamilyOkWrongFalsely : Prop := fnFamilyOkRow.holds Try.pinned (OpenSpec.ofChange fnFamilyOkWrong)

/-- 'laws.FnInOk': WHATEVER THE INPUT: true; the input reads as it did. -/
def fnInOkSpec : ChangeSpec := { name := "fnInOk", fn := fun _ => fun
  | [d] => { results := [.lit (.bool true)], args := [d] }
  | _ => none }
def fnInOkRow : OpenClaim := { program := "ytlcgbmeneajfoaa", sum := "eecdcd40acb2857414161b9aeaed9e21aea4f811884d88f107787d30fa1ea546", func := "loop.example/failingnets/laws.FnInOk", spec := "fnInOk", unfollowed := true, recurses := true, apart := false }
def FnInOkSaid : Prop := fnInOkRow.holds Try.pinned (OpenSpec.ofChange fnInOkSpec)

/-- ITS FALSE NEIGHBOUR: 'it returns false'. Refute it at one input. -/
def fnInOkWrong : ChangeSpec := { name := "fnInOk", fn := fun _ => fun
  | [d] => { results := [.lit (.bool false)], args := [d] }
  | _ => none }
def FnInOkWrongFalsely : Prop := fnInOkRow.holds Try.pinned (OpenSpec.ofChange fnInOkWrong)

/-- 'laws.FnFamilyFrom': WHATEVER THE INPUT: true; the input reads as it did. -/
def fnFamilyFromSpec : ChangeSpec := { name := "fnFamilyFrom", fn := fun _ => fun
  | [d] => { results := [.lit (.bool true)], args := [d] }
  | _ => none }
def fnFamilyFromRow : OpenClaim := { program := "ytlcgbmeneajfoaa", sum := "eecdcd40acb2857414161b9aeaed9e21aea4f811884d88f107787d30fa1ea546", func := "loop.example/failingnets/laws.FnFamilyFrom", spec := "fnFamilyFrom", unfollowed := true, recurses := true, apart := false }
def FnFamilyFromSaid : Prop := fnFamilyFromRow.holds Try.pinned (OpenSpec.ofChange fnFamilyFromSpec)

/-- ITS FALSE NEIGHBOUR: 'it returns false'. Refute it at one input. -/
def fnFamilyFromWrong : ChangeSpec := { name := "fnFamilyFrom", fn := fun _ => fun
  | [d] => { results := [.lit (.bool false)], args := [d] }
  | _ => none }
def FnFamilyFromWrongFalsely : Prop := fnFamilyFromRow.holds Try.pinned (OpenSpec.ofChange fnFamilyFromWrong)

/- THE SECOND FORM. 'bulk': how many values and letters a reading holds, each counted each time it is reached (what is shared counts as often as it is met; a slice's spare places count too). A statement '..UptoSaid' is the law's where the arguments, and the package variables that the reading takes, are together of bulk at most 1048576: NARROWER than '..Said'. Prove '..Said' where nothing that the law and all that it calls make is longer than what came in: it says more and counts as full. Else prove '..UptoSaid'. A law counts once. -/
mutual
def uptoBulk {H : Type} : DataW H → Nat
  | .lit (.string bytes) => bytes.length + 1
  | .lit _ => 1
  | .nil => 1
  | .ptr d => uptoBulk d + 1
  | .slice elems spare => uptoBulkAll elems + uptoBulkAll spare + 1
  | .agg parts => uptoBulkAll parts + 1
  | .iface _ d => uptoBulk d + 1
  | .map entries => uptoBulkEntries entries + 1
  | .held _ => 1
def uptoBulkAll {H : Type} : List (DataW H) → Nat
  | [] => 0
  | d :: r => uptoBulk d + uptoBulkAll r
def uptoBulkEntries {H : Type} : List (Lit × DataW H) → Nat
  | [] => 0
  | x :: r => uptoBulkEntry x + uptoBulkEntries r
def uptoBulkEntry {H : Type} : Lit × DataW H → Nat
  | (.string bytes, d) => bytes.length + uptoBulk d + 1
  | (_, d) => uptoBulk d + 1
 end
def uptoSmall : (H : Type) → List (DataW H) → Bool := fun _ ds => decide (uptoBulkAll ds ≤ 1048576)
def OpenSpec.upto (s : _root_.Go.ChangeSpec) : _root_.Go.OpenSpec := { _root_.Go.OpenSpec.ofChange s with cond := some uptoSmall }

/-- 'laws.FnExactFamilyOk', WHERE WHAT IT READS IS OF BULK AT MOST 1048576: true; the input reads as it did. -/
def fnExactFamilyOkUptoRow : OpenClaim := { program := "ytlcgbmeneajfoaa", sum := "eecdcd40acb2857414161b9aeaed9e21aea4f811884d88f107787d30fa1ea546", func := "loop.example/failingnets/laws.FnExactFamilyOk", spec := "fnExactFamilyOk", unfollowed := true, recurses := true, apart := false, narrowed := true }
def FnExactFamilyOkUptoSaid : Prop := fnExactFamilyOkUptoRow.holds Try.pinned (OpenSpec.upto fnExactFamilyOkSpec)

/-- 'laws.FnExactInOk', WHERE WHAT IT READS IS OF BULK AT MOST 1048576: true; the input reads as it did. -/
def fnExactInOkUptoRow : OpenClaim := { program := "ytlcgbmeneajfoaa", sum := "eecdcd40acb2857414161b9aeaed9e21aea4f811884d88f107787d30fa1ea546", func := "loop.example/failingnets/laws.FnExactInOk", spec := "fnExactInOk", unfollowed := true, recurses := true, apart := false, narrowed := true }
def FnExactInOkUptoSaid : Prop := fnExactInOkUptoRow.holds Try.pinned (OpenSpec.upto fnExactInOkSpec)

/-- 'laws.FnExactFamilyFrom', WHERE WHAT IT READS IS OF BULK AT MOST 1048576: true; the input reads as it did. -/
def fnExactFamilyFromUptoRow : OpenClaim := { program := "ytlcgbmeneajfoaa", sum := "eecdcd40acb2857414161b9aeaed9e21aea4f811884d88f107787d30fa1ea546", func := "loop.example/failingnets/laws.FnExactFamilyFrom", spec := "fnExactFamilyFrom", unfollowed := true, recurses := true, apart := false, narrowed := true }
def FnExactFamilyFromUptoSaid : Prop := fnExactFamilyFromUptoRow.holds Try.pinned (OpenSpec.upto fnExactFamilyFromSpec)

/-- 'laws.FnExactCountIn', WHERE WHAT IT READS IS OF BULK AT MOST 1048576: true; the input reads as it did. -/
def fnExactCountInUptoRow : OpenClaim := { program := "ytlcgbmeneajfoaa", sum := "eecdcd40acb2857414161b9aeaed9e21aea4f811884d88f107787d30fa1ea546", func := "loop.example/failingnets/laws.FnExactCountIn", spec := "fnExactCountIn", unfollowed := true, recurses := true, apart := false, narrowed := true }
def FnExactCountInUptoSaid : Prop := fnExactCountInUptoRow.holds Try.pinned (OpenSpec.upto fnExactCountInSpec)

/-- 'laws.FnExactBlockerOf', WHERE WHAT IT READS IS OF BULK AT MOST 1048576: true; the input reads as it did. -/
def fnExactBlockerOfUptoRow : OpenClaim := { program := "ytlcgbmeneajfoaa", sum := "eecdcd40acb2857414161b9aeaed9e21aea4f811884d88f107787d30fa1ea546", func := "loop.example/failingnets/laws.FnExactBlockerOf", spec := "fnExactBlockerOf", unfollowed := true, recurses := true, apart := false, narrowed := true }
def FnExactBlockerOfUptoSaid : Prop := fnExactBlockerOfUptoRow.holds Try.pinned (OpenSpec.upto fnExactBlockerOfSpec)

/-- 'laws.FnExactBothFamilies', WHERE WHAT IT READS IS OF BULK AT MOST 1048576: true; the input reads as it did. -/
def fnExactBothFamiliesUptoRow : OpenClaim := { program := "ytlcgbmeneajfoaa", sum := "eecdcd40acb2857414161b9aeaed9e21aea4f811884d88f107787d30fa1ea546", func := "loop.example/failingnets/laws.FnExactBothFamilies", spec := "fnExactBothFamilies", unfollowed := true, recurses := true, apart := false, narrowed := true }
def FnExactBothFamiliesUptoSaid : Prop := fnExactBothFamiliesUptoRow.holds Try.pinned (OpenSpec.upto fnExactBothFamiliesSpec)

/-- 'laws.FnExactEitherFamily', WHERE WHAT IT READS IS OF BULK AT MOST 1048576: true; the input reads as it did. -/
def fnExactEitherFamilyUptoRow : OpenClaim := { program := "ytlcgbmeneajfoaa", sum := "eecdcd40acb2857414161b9aeaed9e21aea4f811884d88f107787d30fa1ea546", func := "loop.example/failingnets/laws.FnExactEitherFamily", spec := "fnExactEitherFamily", unfollowed := true, recurses := true, apart := false, narrowed := true }
def FnExactEitherFamilyUptoSaid : Prop := fnExactEitherFamilyUptoRow.holds Try.pinned (OpenSpec.upto fnExactEitherFamilySpec)

/-- 'laws.FnExactApartFamilies', WHERE WHAT IT READS IS OF BULK AT MOST 1048576: true; the input reads as it did. -/
def fnExactApartFamiliesUptoRow : OpenClaim := { program := "ytlcgbmeneajfoaa", sum := "eecdcd40acb2857414161b9aeaed9e21aea4f811884d88f107787d30fa1ea546", func := "loop.example/failingnets/laws.FnExactApartFamilies", spec := "fnExactApartFamilies", unfollowed := true, recurses := true, apart := false, narrowed := true }
def FnExactApartFamiliesUptoSaid : Prop := fnExactApartFamiliesUptoRow.holds Try.pinned (OpenSpec.upto fnExactApartFamiliesSpec)

/-- 'laws.FnFamilyOk', WHERE WHAT IT READS IS OF BULK AT MOST 1048576: true; the input reads as it did. -/
def fnFamilyOkUptoRow : OpenClaim := { program := "ytlcgbmeneajfoaa", sum := "eecdcd40acb2857414161b9aeaed9e21aea4f811884d88f107787d30fa1ea546", func := "loop.example/failingnets/laws.FnFamilyOk", spec := "fnFamilyOk", unfollowed := true, recurses := true, apart := false, narrowed := true }
def FnFamilyOkUptoSaid : Prop := fnFamilyOkUptoRow.holds Try.pinned (OpenSpec.upto fnFamilyOkSpec)

/-- 'laws.FnInOk', WHERE WHAT IT READS IS OF BULK AT MOST 1048576: true; the input reads as it did. -/
def fnInOkUptoRow : OpenClaim := { program := "ytlcgbmeneajfoaa", sum := "eecdcd40acb2857414161b9aeaed9e21aea4f811884d88f107787d30fa1ea546", func := "loop.example/failingnets/laws.FnInOk", spec := "fnInOk", unfollowed := true, recurses := true, apart := false, narrowed := true }
def FnInOkUptoSaid : Prop := fnInOkUptoRow.holds Try.pinned (OpenSpec.upto fnInOkSpec)

/-- 'laws.FnFamilyFrom', WHERE WHAT IT READS IS OF BULK AT MOST 1048576: true; the input reads as it did. -/
def fnFamilyFromUptoRow : OpenClaim := { program := "ytlcgbmeneajfoaa", sum := "eecdcd40acb2857414161b9aeaed9e21aea4f811884d88f107787d30fa1ea546", func := "loop.example/failingnets/laws.FnFamilyFrom", spec := "fnFamilyFrom", unfollowed := true, recurses := true, apart := false, narrowed := true }
def FnFamilyFromUptoSaid : Prop := fnFamilyFromUptoRow.holds Try.pinned (OpenSpec.upto fnFamilyFromSpec)

end Rows
end Go.Proofs.Ytlcgbmeneajfoaa
