/-
  No cell of these rows narrows 'for every input' (looked for: loops, veiled, ifaces, maps, wideKeys, modest, calm, conditions, laid).
  DERIVED. THE GIVEN ROWS OF THIS SEAT. 12 by the template 'for every input the law returns true; each argument reads behind the call as it read before'; 0 by the template 'total and deterministic' (their statements: YtmdmmebekicpkabTotals.lean).
  GIVEN WITH THE SEED: the statements are not yours to turn. If you find one false, say at which input.
  Laid BY PROGRAM, IN A SANDBOX (cutbox-rows.mjs): the forced cells as the released guide's own fill.sh prints them over the translation 6cf842c37c8f139d… (all of the seat's roots in one cut). By AI agents, Wed Nov 11 2026. No macro, syntax, notation, axiom, sorry.
-/
import Derived.Test.YtmdmmebekicpkabChecked
import GoSem.Claim
import GoSem.ClaimJoined
import GoSem.ClaimMapViews
import Derived.JoinedTies
import Derived.KernelRfl
namespace Go.Proofs.Ytmdmmebekicpkab
/- THE CELL 'sum', in the pinned program and in every row, IS THE sha256 OF THE DUMP (.gsa) THAT YtmdmmebekicpkabProg.lean LOADS. Nothing in Lean hashes anything: it is a label: what it is worth is what the hold of that sum in a sandbox is worth. -/
noncomputable def Try.pinned : Pinned := { name := "ytmdmmebekicpkab", sum := "6cf842c37c8f139d7f11d83c2f917a114804156bbbfb6891b2f0f69fbe5c4c06", checked := Try.checked }
namespace Rows
def none {H : Type} : Left H := { results := [], args := [] }

/-- 'laws.FnWeightsOk': WHATEVER THE INPUT: true; the input reads as it did. -/
def fnWeightsOkSpec : ChangeSpec := { name := "fnWeightsOk", fn := fun _ => fun
  | [d] => { results := [.lit (.bool true)], args := [d] }
  | _ => none }
def fnWeightsOkRow : OpenClaim := { program := "ytmdmmebekicpkab", sum := "6cf842c37c8f139d7f11d83c2f917a114804156bbbfb6891b2f0f69fbe5c4c06", func := "loop.example/failingnets/laws.FnWeightsOk", spec := "fnWeightsOk", unfollowed := true, recurses := true, apart := false }
def FnWeightsOkSaid : Prop := fnWeightsOkRow.holds Try.pinned (OpenSpec.ofChange fnWeightsOkSpec)

/-- ITS FALSE NEIGHBOUR: 'it returns false'. Refute it at one input. -/
def fnWeightsOkWrong : ChangeSpec := { name := "fnWeightsOk", fn := fun _ => fun
  | [d] => { results := [.lit (.bool false)], args := [d] }
  | _ => none }
def FnWeightsOkWrongFalsely : Prop := fnWeightsOkRow.holds Try.pinned (OpenSpec.ofChange fnWeightsOkWrong)

/-- 'laws.FnHeavyOf': WHATEVER THE INPUT: true; the input reads as it did. -/
def fnHeavyOfSpec : ChangeSpec := { name := "fnHeavyOf", fn := fun _ => fun
  | [d] => { results := [.lit (.bool true)], args := [d] }
  | _ => none }
def fnHeavyOfRow : OpenClaim := { program := "ytmdmmebekicpkab", sum := "6cf842c37c8f139d7f11d83c2f917a114804156bbbfb6891b2f0f69fbe5c4c06", func := "loop.example/failingnets/laws.FnHeavyOf", spec := "fnHeavyOf", unfollowed := true, recurses := true, apart := false }
def FnHeavyOfSaid : Prop := fnHeavyOfRow.holds Try.pinned (OpenSpec.ofChange fnHeavyOfSpec)

/-- ITS FALSE NEIGHBOUR: 'it returns false'. Refute it at one input. -/
def fnHeavyOfWrong : ChangeSpec := { name := "fnHeavyOf", fn := fun _ => fun
  | [d] => { results := [.lit (.bool false)], args := [d] }
  | _ => none }
def FnHeavyOfWrongFalsely : Prop := fnHeavyOfRow.holds Try.pinned (OpenSpec.ofChange fnHeavyOfWrong)

/-- 'laws.FnExactTreeOk': WHATEVER THE INPUT: true; the input reads as it did. -/
def fnExactTreeOkSpec : ChangeSpec := { name := "fnExactTreeOk", fn := fun _ => fun
  | [d1, d2] => { results := [.lit (.bool true)], args := [d1, d2] }
  | _ => none }
def fnExactTreeOkRow : OpenClaim := { program := "ytmdmmebekicpkab", sum := "6cf842c37c8f139d7f11d83c2f917a114804156bbbfb6891b2f0f69fbe5c4c06", func := "loop.example/failingnets/laws.FnExactTreeOk", spec := "fnExactTreeOk", apart := false }
def FnExactTreeOkSaid : Prop := fnExactTreeOkRow.holds Try.pinned (OpenSpec.ofChange fnExactTreeOkSpec)

/-- ITS FALSE NEIGHBOUR: 'it returns false'. Refute it at one input. -/
def fnExactTreeOkWrong : ChangeSpec := { name := "fnExactTreeOk", fn := fun _ => fun
  | [d1, d2] => { results := [.lit (.bool false)], args := [d1, d2] }
  | _ => none }
def FnExactTreeOkWrongFalsely : Prop := fnExactTreeOkRow.holds Try.pinned (OpenSpec.ofChange fnExactTreeOkWrong)

/-- 'laws.FnTreeOk': WHATEVER THE INPUT: true; the input reads as it did. -/
def fnTreeOkSpec : ChangeSpec := { name := "fnTreeOk", fn := fun _ => fun
  | [d] => { results := [.lit (.bool true)], args := [d] }
  | _ => none }
def fnTreeOkRow : OpenClaim := { program := "ytmdmmebekicpkab", sum := "6cf842c37c8f139d7f11d83c2f917a114804156bbbfb6891b2f0f69fbe5c4c06", func := "loop.example/failingnets/laws.FnTreeOk", spec := "fnTreeOk", apart := false }
def FnTreeOkSaid : Prop := fnTreeOkRow.holds Try.pinned (OpenSpec.ofChange fnTreeOkSpec)

/-- ITS FALSE NEIGHBOUR: 'it returns false'. Refute it at one input. -/
def fnTreeOkWrong : ChangeSpec := { name := "fnTreeOk", fn := fun _ => fun
  | [d] => { results := [.lit (.bool false)], args := [d] }
  | _ => none }
def FnTreeOkWrongFalsely : Prop := fnTreeOkRow.holds Try.pinned (OpenSpec.ofChange fnTreeOkWrong)

/-- 'laws.FnExactTableOf': WHATEVER THE INPUT: true; the input reads as it did. -/
def fnExactTableOfSpec : ChangeSpec := { name := "fnExactTableOf", fn := fun _ => fun
  | [d] => { results := [.lit (.bool true)], args := [d] }
  | _ => none }
def fnExactTableOfRow : OpenClaim := { program := "ytmdmmebekicpkab", sum := "6cf842c37c8f139d7f11d83c2f917a114804156bbbfb6891b2f0f69fbe5c4c06", func := "loop.example/failingnets/laws.FnExactTableOf", spec := "fnExactTableOf", unfollowed := true, recurses := true, apart := false }
def FnExactTableOfSaid : Prop := fnExactTableOfRow.holds Try.pinned (OpenSpec.ofChange fnExactTableOfSpec)

/-- ITS FALSE NEIGHBOUR: 'it returns false'. Refute it at one input. -/
def fnExactTableOfWrong : ChangeSpec := { name := "fnExactTableOf", fn := fun _ => fun
  | [d] => { results := [.lit (.bool false)], args := [d] }
  | _ => none }
def FnExactTableOfWrongFalsely : Prop := fnExactTableOfRow.holds Try.pinned (OpenSpec.ofChange fnExactTableOfWrong)

/-- 'laws.FnTableOf': WHATEVER THE INPUT: true; the input reads as it did. -/
def fnTableOfSpec : ChangeSpec := { name := "fnTableOf", fn := fun _ => fun
  | [d] => { results := [.lit (.bool true)], args := [d] }
  | _ => none }
def fnTableOfRow : OpenClaim := { program := "ytmdmmebekicpkab", sum := "6cf842c37c8f139d7f11d83c2f917a114804156bbbfb6891b2f0f69fbe5c4c06", func := "loop.example/failingnets/laws.FnTableOf", spec := "fnTableOf", unfollowed := true, recurses := true, apart := false }
def FnTableOfSaid : Prop := fnTableOfRow.holds Try.pinned (OpenSpec.ofChange fnTableOfSpec)

/-- ITS FALSE NEIGHBOUR: 'it returns false'. Refute it at one input. -/
def fnTableOfWrong : ChangeSpec := { name := "fnTableOf", fn := fun _ => fun
  | [d] => { results := [.lit (.bool false)], args := [d] }
  | _ => none }
def FnTableOfWrongFalsely : Prop := fnTableOfRow.holds Try.pinned (OpenSpec.ofChange fnTableOfWrong)

/-- 'laws.FnExactRingWith': WHATEVER THE INPUT: true; the input reads as it did. -/
def fnExactRingWithSpec : ChangeSpec := { name := "fnExactRingWith", fn := fun _ => fun
  | [d1, d2, d3] => { results := [.lit (.bool true)], args := [d1, d2, d3] }
  | _ => none }
def fnExactRingWithRow : OpenClaim := { program := "ytmdmmebekicpkab", sum := "6cf842c37c8f139d7f11d83c2f917a114804156bbbfb6891b2f0f69fbe5c4c06", func := "loop.example/failingnets/laws.FnExactRingWith", spec := "fnExactRingWith", unfollowed := true, recurses := true, apart := false }
def FnExactRingWithSaid : Prop := fnExactRingWithRow.holds Try.pinned (OpenSpec.ofChange fnExactRingWithSpec)

/-- ITS FALSE NEIGHBOUR: 'it returns false'. Refute it at one input. -/
def fnExactRingWithWrong : ChangeSpec := { name := "fnExactRingWith", fn := fun _ => fun
  | [d1, d2, d3] => { results := [.lit (.bool false)], args := [d1, d2, d3] }
  | _ => none }
def FnExactRingWithWrongFalsely : Prop := fnExactRingWithRow.holds Try.pinned (OpenSpec.ofChange fnExactRingWithWrong)

/-- 'laws.FnExactCutWith': WHATEVER THE INPUT: true; the input reads as it did. -/
def fnExactCutWithSpec : ChangeSpec := { name := "fnExactCutWith", fn := fun _ => fun
  | [d1, d2, d3] => { results := [.lit (.bool true)], args := [d1, d2, d3] }
  | _ => none }
def fnExactCutWithRow : OpenClaim := { program := "ytmdmmebekicpkab", sum := "6cf842c37c8f139d7f11d83c2f917a114804156bbbfb6891b2f0f69fbe5c4c06", func := "loop.example/failingnets/laws.FnExactCutWith", spec := "fnExactCutWith", unfollowed := true, recurses := true, apart := false }
def FnExactCutWithSaid : Prop := fnExactCutWithRow.holds Try.pinned (OpenSpec.ofChange fnExactCutWithSpec)

/-- ITS FALSE NEIGHBOUR: 'it returns false'. Refute it at one input. -/
def fnExactCutWithWrong : ChangeSpec := { name := "fnExactCutWith", fn := fun _ => fun
  | [d1, d2, d3] => { results := [.lit (.bool false)], args := [d1, d2, d3] }
  | _ => none }
def FnExactCutWithWrongFalsely : Prop := fnExactCutWithRow.holds Try.pinned (OpenSpec.ofChange fnExactCutWithWrong)

/-- 'laws.FnRingWith': WHATEVER THE INPUT: true; the input reads as it did. -/
def fnRingWithSpec : ChangeSpec := { name := "fnRingWith", fn := fun _ => fun
  | [d] => { results := [.lit (.bool true)], args := [d] }
  | _ => none }
def fnRingWithRow : OpenClaim := { program := "ytmdmmebekicpkab", sum := "6cf842c37c8f139d7f11d83c2f917a114804156bbbfb6891b2f0f69fbe5c4c06", func := "loop.example/failingnets/laws.FnRingWith", spec := "fnRingWith", unfollowed := true, recurses := true, apart := false }
def FnRingWithSaid : Prop := fnRingWithRow.holds Try.pinned (OpenSpec.ofChange fnRingWithSpec)

/-- ITS FALSE NEIGHBOUR: 'it returns false'. Refute it at one input. -/
def fnRingWithWrong : ChangeSpec := { name := "fnRingWith", fn := fun _ => fun
  | [d] => { results := [.lit (.bool false)], args := [d] }
  | _ => none }
def FnRingWithWrongFalsely : Prop := fnRingWithRow.holds Try.pinned (OpenSpec.ofChange fnRingWithWrong)

/-- 'laws.FnCutWith': WHATEVER THE INPUT: true; the input reads as it did. -/
def fnCutWithSpec : ChangeSpec := { name := "fnCutWith", fn := fun _ => fun
  | [d] => { results := [.lit (.bool true)], args := [d] }
  | _ => none }
def fnCutWithRow : OpenClaim := { program := "ytmdmmebekicpkab", sum := "6cf842c37c8f139d7f11d83c2f917a114804156bbbfb6891b2f0f69fbe5c4c06", func := "loop.example/failingnets/laws.FnCutWith", spec := "fnCutWith", unfollowed := true, recurses := true, apart := false }
def FnCutWithSaid : Prop := fnCutWithRow.holds Try.pinned (OpenSpec.ofChange fnCutWithSpec)

/-- ITS FALSE NEIGHBOUR: 'it returns false'. Refute it at one input. -/
def fnCutWithWrong : ChangeSpec := { name := "fnCutWith", fn := fun _ => fun
  | [d] => { results := [.lit (.bool false)], args := [d] }
  | _ => none }
def FnCutWithWrongFalsely : Prop := fnCutWithRow.holds Try.pinned (OpenSpec.ofChange fnCutWithWrong)

/-- 'laws.FnExactFoldOf': WHATEVER THE INPUT: true; the input reads as it did. -/
def fnExactFoldOfSpec : ChangeSpec := { name := "fnExactFoldOf", fn := fun _ => fun
  | [d] => { results := [.lit (.bool true)], args := [d] }
  | _ => none }
def fnExactFoldOfRow : OpenClaim := { program := "ytmdmmebekicpkab", sum := "6cf842c37c8f139d7f11d83c2f917a114804156bbbfb6891b2f0f69fbe5c4c06", func := "loop.example/failingnets/laws.FnExactFoldOf", spec := "fnExactFoldOf", unfollowed := true, recurses := true, apart := false }
def FnExactFoldOfSaid : Prop := fnExactFoldOfRow.holds Try.pinned (OpenSpec.ofChange fnExactFoldOfSpec)

/-- ITS FALSE NEIGHBOUR: 'it returns false'. Refute it at one input. -/
def fnExactFoldOfWrong : ChangeSpec := { name := "fnExactFoldOf", fn := fun _ => fun
  | [d] => { results := [.lit (.bool false)], args := [d] }
  | _ => none }
def FnExactFoldOfWrongFalsely : Prop := fnExactFoldOfRow.holds Try.pinned (OpenSpec.ofChange fnExactFoldOfWrong)

/-- 'laws.FnFoldOf': WHATEVER THE INPUT: true; the input reads as it did. -/
def fnFoldOfSpec : ChangeSpec := { name := "fnFoldOf", fn := fun _ => fun
  | [d] => { results := [.lit (.bool true)], args := [d] }
  | _ => none }
def fnFoldOfRow : OpenClaim := { program := "ytmdmmebekicpkab", sum := "6cf842c37c8f139d7f11d83c2f917a114804156bbbfb6891b2f0f69fbe5c4c06", func := "loop.example/failingnets/laws.FnFoldOf", spec := "fnFoldOf", unfollowed := true, recurses := true, apart := false }
def FnFoldOfSaid : Prop := fnFoldOfRow.holds Try.pinned (OpenSpec.ofChange fnFoldOfSpec)

/-- ITS FALSE NEIGHBOUR: 'it returns false'. Refute it at one input. -/
def fnFoldOfWrong : ChangeSpec := { name := "fnFoldOf", fn := fun _ => fun
  | [d] => { results := [.lit (.bool false)], args := [d] }
  | _ => none }
def FnFoldOfWrongFalsely : Prop := fnFoldOfRow.holds Try.pinned (OpenSpec.ofChange fnFoldOfWrong)

/- THE SECOND FORM. 'bulk': how many values and letters a reading holds, each counted each time it is reached (what is shared counts as often as it is met; a slice's spare places count too). A statement '..UptoSaid' is the law's where the arguments, and the package variables that the reading takes, are together of bulk at most 1048576: NARROWER than '..Said'. Prove '..Said' where nothing that the law and all that it calls make is longer than what came in: it says more and counts as full. Else prove '..UptoSaid'. A law counts once. -/
mutual
def uptoBulk {H : Type} : DataW H → Nat
  | .lit (.string bytes) => bytes.length + 1
  | .lit _ => 1
  | .nil => 1
  | .ptr d => uptoBulk d + 1
  | .slice elems spare => uptoBulkAll elems + uptoBulkAll spare + 1
  | .agg parts => uptoBulkAll parts + 1
  | .iface _ d => uptoBulk d + 1
  | .map entries => uptoBulkEntries entries + 1
  | .held _ => 1
def uptoBulkAll {H : Type} : List (DataW H) → Nat
  | [] => 0
  | d :: r => uptoBulk d + uptoBulkAll r
def uptoBulkEntries {H : Type} : List (Lit × DataW H) → Nat
  | [] => 0
  | x :: r => uptoBulkEntry x + uptoBulkEntries r
def uptoBulkEntry {H : Type} : Lit × DataW H → Nat
  | (.string bytes, d) => bytes.length + uptoBulk d + 1
  | (_, d) => uptoBulk d + 1
 end
def uptoSmall : (H : Type) → List (DataW H) → Bool := fun _ ds => decide (uptoBulkAll ds ≤ 1048576)
def OpenSpec.upto (s : _root_.Go.ChangeSpec) : _root_.Go.OpenSpec := { _root_.Go.OpenSpec.ofChange s with cond := some uptoSmall }

/-- 'laws.FnWeightsOk', WHERE WHAT IT READS IS OF BULK AT MOST 1048576: true; the input reads as it did. -/
def fnWeightsOkUptoRow : OpenClaim := { program := "ytmdmmebekicpkab", sum := "6cf842c37c8f139d7f11d83c2f917a114804156bbbfb6891b2f0f69fbe5c4c06", func := "loop.example/failingnets/laws.FnWeightsOk", spec := "fnWeightsOk", unfollowed := true, recurses := true, apart := false, narrowed := true }
def FnWeightsOkUptoSaid : Prop := fnWeightsOkUptoRow.holds Try.pinned (OpenSpec.upto fnWeightsOkSpec)

/-- 'laws.FnHeavyOf', WHERE WHAT IT READS IS OF BULK AT MOST 1048576: true; the input reads as it did. -/
def fnHeavyOfUptoRow : OpenClaim := { program := "ytmdmmebekicpkab", sum := "6cf842c37c8f139d7f11d83c2f917a114804156bbbfb6891b2f0f69fbe5c4c06", func := "loop.example/failingnets/laws.FnHeavyOf", spec := "fnHeavyOf", unfollowed := true, recurses := true, apart := false, narrowed := true }
def FnHeavyOfUptoSaid : Prop := fnHeavyOfUptoRow.holds Try.pinned (OpenSpec.upto fnHeavyOfSpec)

/-- 'laws.FnExactTreeOk', WHERE WHAT IT READS IS OF BULK AT MOST 1048576: true; the input reads as it did. -/
def fnExactTreeOkUptoRow : OpenClaim := { program := "ytmdmmebekicpkab", sum := "6cf842c37c8f139d7f11d83c2f917a114804156bbbfb6891b2f0f69fbe5c4c06", func := "loop.example/failingnets/laws.FnExactTreeOk", spec := "fnExactTreeOk", apart := false, narrowed := true }
def FnExactTreeOkUptoSaid : Prop := fnExactTreeOkUptoRow.holds Try.pinned (OpenSpec.upto fnExactTreeOkSpec)

/-- 'laws.FnTreeOk', WHERE WHAT IT READS IS OF BULK AT MOST 1048576: true; the input reads as it did. -/
def fnTreeOkUptoRow : OpenClaim := { program := "ytmdmmebekicpkab", sum := "6cf842c37c8f139d7f11d83c2f917a114804156bbbfb6891b2f0f69fbe5c4c06", func := "loop.example/failingnets/laws.FnTreeOk", spec := "fnTreeOk", apart := false, narrowed := true }
def FnTreeOkUptoSaid : Prop := fnTreeOkUptoRow.holds Try.pinned (OpenSpec.upto fnTreeOkSpec)

/-- 'laws.FnExactTableOf', WHERE WHAT IT READS IS OF BULK AT MOST 1048576: true; the input reads as it did. -/
def fnExactTableOfUptoRow : OpenClaim := { program := "ytmdmmebekicpkab", sum := "6cf842c37c8f139d7f11d83c2f917a114804156bbbfb6891b2f0f69fbe5c4c06", func := "loop.example/failingnets/laws.FnExactTableOf", spec := "fnExactTableOf", unfollowed := true, recurses := true, apart := false, narrowed := true }
def FnExactTableOfUptoSaid : Prop := fnExactTableOfUptoRow.holds Try.pinned (OpenSpec.upto fnExactTableOfSpec)

/-- 'laws.FnTableOf', WHERE WHAT IT READS IS OF BULK AT MOST 1048576: true; the input reads as it did. -/
def fnTableOfUptoRow : OpenClaim := { program := "ytmdmmebekicpkab", sum := "6cf842c37c8f139d7f11d83c2f917a114804156bbbfb6891b2f0f69fbe5c4c06", func := "loop.example/failingnets/laws.FnTableOf", spec := "fnTableOf", unfollowed := true, recurses := true, apart := false, narrowed := true }
def FnTableOfUptoSaid : Prop := fnTableOfUptoRow.holds Try.pinned (OpenSpec.upto fnTableOfSpec)

/-- 'laws.FnExactRingWith', WHERE WHAT IT READS IS OF BULK AT MOST 1048576: true; the input reads as it did. -/
def fnExactRingWithUptoRow : OpenClaim := { program := "ytmdmmebekicpkab", sum := "6cf842c37c8f139d7f11d83c2f917a114804156bbbfb6891b2f0f69fbe5c4c06", func := "loop.example/failingnets/laws.FnExactRingWith", spec := "fnExactRingWith", unfollowed := true, recurses := true, apart := false, narrowed := true }
def FnExactRingWithUptoSaid : Prop := fnExactRingWithUptoRow.holds Try.pinned (OpenSpec.upto fnExactRingWithSpec)

/-- 'laws.FnExactCutWith', WHERE WHAT IT READS IS OF BULK AT MOST 1048576: true; the input reads as it did. -/
def fnExactCutWithUptoRow : OpenClaim := { program := "ytmdmmebekicpkab", sum := "6cf842c37c8f139d7f11d83c2f917a114804156bbbfb6891b2f0f69fbe5c4c06", func := "loop.example/failingnets/laws.FnExactCutWith", spec := "fnExactCutWith", unfollowed := true, recurses := true, apart := false, narrowed := true }
def FnExactCutWithUptoSaid : Prop := fnExactCutWithUptoRow.holds Try.pinned (OpenSpec.upto fnExactCutWithSpec)

/-- 'laws.FnRingWith', WHERE WHAT IT READS IS OF BULK AT MOST 1048576: true; the input reads as it did. -/
def fnRingWithUptoRow : OpenClaim := { program := "ytmdmmebekicpkab", sum := "6cf842c37c8f139d7f11d83c2f917a114804156bbbfb6891b2f0f69fbe5c4c06", func := "loop.example/failingnets/laws.FnRingWith", spec := "fnRingWith", unfollowed := true, recurses := true, apart := false, narrowed := true }
def FnRingWithUptoSaid : Prop := fnRingWithUptoRow.holds Try.pinned (OpenSpec.upto fnRingWithSpec)

/-- 'laws.FnCutWith', WHERE WHAT IT READS IS OF BULK AT MOST 1048576: true; the input reads as it did. -/
def fnCutWithUptoRow : OpenClaim := { program := "ytmdmmebekicpkab", sum := "6cf842c37c8f139d7f11d83c2f917a114804156bbbfb6891b2f0f69fbe5c4c06", func := "loop.example/failingnets/laws.FnCutWith", spec := "fnCutWith", unfollowed := true, recurses := true, apart := false, narrowed := true }
def FnCutWithUptoSaid : Prop := fnCutWithUptoRow.holds Try.pinned (OpenSpec.upto fnCutWithSpec)

/-- 'laws.FnExactFoldOf', WHERE WHAT IT READS IS OF BULK AT MOST 1048576: true; the input reads as it did. -/
def fnExactFoldOfUptoRow : OpenClaim := { program := "ytmdmmebekicpkab", sum := "6cf842c37c8f139d7f11d83c2f917a114804156bbbfb6891b2f0f69fbe5c4c06", func := "loop.example/failingnets/laws.FnExactFoldOf", spec := "fnExactFoldOf", unfollowed := true, recurses := true, apart := false, narrowed := true }
def FnExactFoldOfUptoSaid : Prop := fnExactFoldOfUptoRow.holds Try.pinned (OpenSpec.upto fnExactFoldOfSpec)

/-- 'laws.FnFoldOf', WHERE WHAT IT READS IS OF BULK AT MOST 1048576: true; the input reads as it did. -/
def fnFoldOfUptoRow : OpenClaim := { program := "ytmdmmebekicpkab", sum := "6cf842c37c8f139d7f11d83c2f917a114804156bbbfb6891b2f0f69fbe5c4c06", func := "loop.example/failingnets/laws.FnFoldOf", spec := "fnFoldOf", unfollowed := true, recurses := true, apart := false, narrowed := true }
def FnFoldOfUptoSaid : Prop := fnFoldOfUptoRow.holds Try.pinned (OpenSpec.upto fnFoldOfSpec)

end Rows
end Go.Proofs.Ytmdmmebekicpkab
