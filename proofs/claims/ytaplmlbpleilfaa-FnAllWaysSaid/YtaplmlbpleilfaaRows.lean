/-
  No cell of these rows narrows 'for every input' (looked for: loops, veiled, ifaces, maps, wideKeys, modest, calm, conditions, laid).
  DERIVED. THE GIVEN ROWS OF THIS SEAT. 10 by the template 'for every input the law returns true; each argument reads behind the call as it read before'; 0 by the template 'total and deterministic' (their statements: YtaplmlbpleilfaaTotals.lean).
  GIVEN WITH THE SEED: the statements are not yours to turn. If you find one false, say at which input.
  Laid BY PROGRAM, IN A SANDBOX (cutbox-rows.mjs): the forced cells as the released guide's own fill.sh prints them over the translation ed27d693f9905c35… (all of the seat's roots in one cut). By AI agents, Wed Nov 11 2026. No macro, syntax, notation, axiom, sorry.
-/
import Derived.Test.YtaplmlbpleilfaaChecked
import GoSem.Claim
import GoSem.ClaimJoined
import GoSem.ClaimMapViews
import Derived.JoinedTies
import Derived.KernelRfl
namespace Go.Proofs.Ytaplmlbpleilfaa
/- THE CELL 'sum', in the pinned program and in every row, IS THE sha256 OF THE DUMP (.gsa) THAT YtaplmlbpleilfaaProg.lean LOADS. Nothing in Lean hashes anything: it is a label: what it is worth is what the hold of that sum in a sandbox is worth. -/
noncomputable def Try.pinned : Pinned := { name := "ytaplmlbpleilfaa", sum := "ed27d693f9905c3570030173ccfa50d1cdc2e19ed674be2df17c3b2838f471a3", checked := Try.checked }
namespace Rows
def none {H : Type} : Left H := { results := [], args := [] }

/-- 'laws.FnChanceOk': WHATEVER THE INPUT: true; the input reads as it did. -/
def fnChanceOkSpec : ChangeSpec := { name := "fnChanceOk", fn := fun _ => fun
  | [d] => { results := [.lit (.bool true)], args := [d] }
  | _ => none }
def fnChanceOkRow : OpenClaim := { program := "ytaplmlbpleilfaa", sum := "ed27d693f9905c3570030173ccfa50d1cdc2e19ed674be2df17c3b2838f471a3", func := "loop.example/failingnets/laws.FnChanceOk", spec := "fnChanceOk", apart := false }
def FnChanceOkSaid : Prop := fnChanceOkRow.holds Try.pinned (OpenSpec.ofChange fnChanceOkSpec)

/-- ITS FALSE NEIGHBOUR: 'it returns false'. Refute it at one input. -/
def fnChanceOkWrong : ChangeSpec := { name := "fnChanceOk", fn := fun _ => fun
  | [d] => { results := [.lit (.bool false)], args := [d] }
  | _ => none }
def FnChanceOkWrongFalsely : Prop := fnChanceOkRow.holds Try.pinned (OpenSpec.ofChange fnChanceOkWrong)

/-- 'laws.FnExactChanceOk': WHATEVER THE INPUT: true; the input reads as it did. -/
def fnExactChanceOkSpec : ChangeSpec := { name := "fnExactChanceOk", fn := fun _ => fun
  | [d1, d2] => { results := [.lit (.bool true)], args := [d1, d2] }
  | _ => none }
def fnExactChanceOkRow : OpenClaim := { program := "ytaplmlbpleilfaa", sum := "ed27d693f9905c3570030173ccfa50d1cdc2e19ed674be2df17c3b2838f471a3", func := "loop.example/failingnets/laws.FnExactChanceOk", spec := "fnExactChanceOk", apart := false }
def FnExactChanceOkSaid : Prop := fnExactChanceOkRow.holds Try.pinned (OpenSpec.ofChange fnExactChanceOkSpec)

/-- ITS FALSE NEIGHBOUR: 'it returns false'. Refute it at one input. -/
def fnExactChanceOkWrong : ChangeSpec := { name := "fnExactChanceOk", fn := fun _ => fun
  | [d1, d2] => { results := [.lit (.bool false)], args := [d1, d2] }
  | _ => none }
def FnExactChanceOkWrongFalsely : Prop := fnExactChanceOkRow.holds Try.pinned (OpenSpec.ofChange fnExactChanceOkWrong)

/-- 'laws.FnWaysOf': WHATEVER THE INPUT: true; the input reads as it did. -/
def fnWaysOfSpec : ChangeSpec := { name := "fnWaysOf", fn := fun _ => fun
  | [d] => { results := [.lit (.bool true)], args := [d] }
  | _ => none }
def fnWaysOfRow : OpenClaim := { program := "ytaplmlbpleilfaa", sum := "ed27d693f9905c3570030173ccfa50d1cdc2e19ed674be2df17c3b2838f471a3", func := "loop.example/failingnets/laws.FnWaysOf", spec := "fnWaysOf", unfollowed := true, recurses := true, apart := false }
def FnWaysOfSaid : Prop := fnWaysOfRow.holds Try.pinned (OpenSpec.ofChange fnWaysOfSpec)

/-- ITS FALSE NEIGHBOUR: 'it returns false'. Refute it at one input. -/
def fnWaysOfWrong : ChangeSpec := { name := "fnWaysOf", fn := fun _ => fun
  | [d] => { results := [.lit (.bool false)], args := [d] }
  | _ => none }
def FnWaysOfWrongFalsely : Prop := fnWaysOfRow.holds Try.pinned (OpenSpec.ofChange fnWaysOfWrong)

/-- 'laws.FnExactWaysOf': WHATEVER THE INPUT: true; the input reads as it did. -/
def fnExactWaysOfSpec : ChangeSpec := { name := "fnExactWaysOf", fn := fun _ => fun
  | [d1, d2, d3] => { results := [.lit (.bool true)], args := [d1, d2, d3] }
  | _ => none }
def fnExactWaysOfRow : OpenClaim := { program := "ytaplmlbpleilfaa", sum := "ed27d693f9905c3570030173ccfa50d1cdc2e19ed674be2df17c3b2838f471a3", func := "loop.example/failingnets/laws.FnExactWaysOf", spec := "fnExactWaysOf", unfollowed := true, recurses := true, apart := false }
def FnExactWaysOfSaid : Prop := fnExactWaysOfRow.holds Try.pinned (OpenSpec.ofChange fnExactWaysOfSpec)

/-- ITS FALSE NEIGHBOUR: 'it returns false'. Refute it at one input. -/
def fnExactWaysOfWrong : ChangeSpec := { name := "fnExactWaysOf", fn := fun _ => fun
  | [d1, d2, d3] => { results := [.lit (.bool false)], args := [d1, d2, d3] }
  | _ => none }
def FnExactWaysOfWrongFalsely : Prop := fnExactWaysOfRow.holds Try.pinned (OpenSpec.ofChange fnExactWaysOfWrong)

/-- 'laws.FnJoinedWays': WHATEVER THE INPUT: true; the input reads as it did. -/
def fnJoinedWaysSpec : ChangeSpec := { name := "fnJoinedWays", fn := fun _ => fun
  | [d] => { results := [.lit (.bool true)], args := [d] }
  | _ => none }
def fnJoinedWaysRow : OpenClaim := { program := "ytaplmlbpleilfaa", sum := "ed27d693f9905c3570030173ccfa50d1cdc2e19ed674be2df17c3b2838f471a3", func := "loop.example/failingnets/laws.FnJoinedWays", spec := "fnJoinedWays", unfollowed := true, recurses := true, apart := false }
def FnJoinedWaysSaid : Prop := fnJoinedWaysRow.holds Try.pinned (OpenSpec.ofChange fnJoinedWaysSpec)

/-- ITS FALSE NEIGHBOUR: 'it returns false'. Refute it at one input. -/
def fnJoinedWaysWrong : ChangeSpec := { name := "fnJoinedWays", fn := fun _ => fun
  | [d] => { results := [.lit (.bool false)], args := [d] }
  | _ => none }
def FnJoinedWaysWrongFalsely : Prop := fnJoinedWaysRow.holds Try.pinned (OpenSpec.ofChange fnJoinedWaysWrong)

/-- 'laws.FnExactJoinedWays': WHATEVER THE INPUT: true; the input reads as it did. -/
def fnExactJoinedWaysSpec : ChangeSpec := { name := "fnExactJoinedWays", fn := fun _ => fun
  | [d1, d2, d3, d4, d5] => { results := [.lit (.bool true)], args := [d1, d2, d3, d4, d5] }
  | _ => none }
def fnExactJoinedWaysRow : OpenClaim := { program := "ytaplmlbpleilfaa", sum := "ed27d693f9905c3570030173ccfa50d1cdc2e19ed674be2df17c3b2838f471a3", func := "loop.example/failingnets/laws.FnExactJoinedWays", spec := "fnExactJoinedWays", unfollowed := true, recurses := true, apart := false }
def FnExactJoinedWaysSaid : Prop := fnExactJoinedWaysRow.holds Try.pinned (OpenSpec.ofChange fnExactJoinedWaysSpec)

/-- ITS FALSE NEIGHBOUR: 'it returns false'. Refute it at one input. -/
def fnExactJoinedWaysWrong : ChangeSpec := { name := "fnExactJoinedWays", fn := fun _ => fun
  | [d1, d2, d3, d4, d5] => { results := [.lit (.bool false)], args := [d1, d2, d3, d4, d5] }
  | _ => none }
def FnExactJoinedWaysWrongFalsely : Prop := fnExactJoinedWaysRow.holds Try.pinned (OpenSpec.ofChange fnExactJoinedWaysWrong)

/-- 'laws.FnWholeWays': WHATEVER THE INPUT: true; the input reads as it did. -/
def fnWholeWaysSpec : ChangeSpec := { name := "fnWholeWays", fn := fun _ => fun
  | [d] => { results := [.lit (.bool true)], args := [d] }
  | _ => none }
def fnWholeWaysRow : OpenClaim := { program := "ytaplmlbpleilfaa", sum := "ed27d693f9905c3570030173ccfa50d1cdc2e19ed674be2df17c3b2838f471a3", func := "loop.example/failingnets/laws.FnWholeWays", spec := "fnWholeWays", unfollowed := true, recurses := true, apart := false }
def FnWholeWaysSaid : Prop := fnWholeWaysRow.holds Try.pinned (OpenSpec.ofChange fnWholeWaysSpec)

/-- ITS FALSE NEIGHBOUR: 'it returns false'. Refute it at one input. -/
def fnWholeWaysWrong : ChangeSpec := { name := "fnWholeWays", fn := fun _ => fun
  | [d] => { results := [.lit (.bool false)], args := [d] }
  | _ => none }
def FnWholeWaysWrongFalsely : Prop := fnWholeWaysRow.holds Try.pinned (OpenSpec.ofChange fnWholeWaysWrong)

/-- 'laws.FnExactWholeWays': WHATEVER THE INPUT: true; the input reads as it did. -/
def fnExactWholeWaysSpec : ChangeSpec := { name := "fnExactWholeWays", fn := fun _ => fun
  | [d1, d2, d3] => { results := [.lit (.bool true)], args := [d1, d2, d3] }
  | _ => none }
def fnExactWholeWaysRow : OpenClaim := { program := "ytaplmlbpleilfaa", sum := "ed27d693f9905c3570030173ccfa50d1cdc2e19ed674be2df17c3b2838f471a3", func := "loop.example/failingnets/laws.FnExactWholeWays", spec := "fnExactWholeWays", unfollowed := true, recurses := true, apart := false }
def FnExactWholeWaysSaid : Prop := fnExactWholeWaysRow.holds Try.pinned (OpenSpec.ofChange fnExactWholeWaysSpec)

/-- ITS FALSE NEIGHBOUR: 'it returns false'. Refute it at one input. -/
def fnExactWholeWaysWrong : ChangeSpec := { name := "fnExactWholeWays", fn := fun _ => fun
  | [d1, d2, d3] => { results := [.lit (.bool false)], args := [d1, d2, d3] }
  | _ => none }
def FnExactWholeWaysWrongFalsely : Prop := fnExactWholeWaysRow.holds Try.pinned (OpenSpec.ofChange fnExactWholeWaysWrong)

/-- 'laws.FnAllWays': WHATEVER THE INPUT: true; the input reads as it did. -/
def fnAllWaysSpec : ChangeSpec := { name := "fnAllWays", fn := fun _ => fun
  | [d] => { results := [.lit (.bool true)], args := [d] }
  | _ => none }
def fnAllWaysRow : OpenClaim := { program := "ytaplmlbpleilfaa", sum := "ed27d693f9905c3570030173ccfa50d1cdc2e19ed674be2df17c3b2838f471a3", func := "loop.example/failingnets/laws.FnAllWays", spec := "fnAllWays", apart := false }
def FnAllWaysSaid : Prop := fnAllWaysRow.holds Try.pinned (OpenSpec.ofChange fnAllWaysSpec)

/-- ITS FALSE NEIGHBOUR: 'it returns false'. Refute it at one input. -/
def fnAllWaysWrong : ChangeSpec := { name := "fnAllWays", fn := fun _ => fun
  | [d] => { results := [.lit (.bool false)], args := [d] }
  | _ => none }
def FnAllWaysWrongFalsely : Prop := fnAllWaysRow.holds Try.pinned (OpenSpec.ofChange fnAllWaysWrong)

/-- 'laws.FnExactAllWays': WHATEVER THE INPUT: true; the input reads as it did. -/
def fnExactAllWaysSpec : ChangeSpec := { name := "fnExactAllWays", fn := fun _ => fun
  | [d1, d2] => { results := [.lit (.bool true)], args := [d1, d2] }
  | _ => none }
def fnExactAllWaysRow : OpenClaim := { program := "ytaplmlbpleilfaa", sum := "ed27d693f9905c3570030173ccfa50d1cdc2e19ed674be2df17c3b2838f471a3", func := "loop.example/failingnets/laws.FnExactAllWays", spec := "fnExactAllWays", apart := false }
def FnExactAllWaysSaid : Prop := fnExactAllWaysRow.holds Try.pinned (OpenSpec.ofChange fnExactAllWaysSpec)

/-- ITS FALSE NEIGHBOUR: 'it returns false'. Refute it at one input. -/
def fnExactAllWaysWrong : ChangeSpec := { name := "fnExactAllWays", fn := fun _ => fun
  | [d1, d2] => { results := [.lit (.bool false)], args := [d1, d2] }
  | _ => none }
def FnExactAllWaysWrongFalsely : Prop := fnExactAllWaysRow.holds Try.pinned (OpenSpec.ofChange fnExactAllWaysWrong)

/- THE SECOND FORM. 'bulk': how many values and letters a reading holds, each counted each time it is reached (what is shared counts as often as it is met; a slice's spare places count too). A statement '..UptoSaid' is the law's where the arguments, and the package variables that the reading takes, are together of bulk at most 1048576: NARROWER than '..Said'. Prove '..Said' where nothing that the law and all that it calls make is longer than what came in: it says more and counts as full. Else prove '..UptoSaid'. A law counts once. -/
mutual
def uptoBulk {H : Type} : DataW H → Nat
  | .lit (.string bytes) => bytes.length + 1
  | .lit _ => 1
  | .nil => 1
  | .ptr d => uptoBulk d + 1
  | .slice elems spare => uptoBulkAll elems + uptoBulkAll spare + 1
  | .agg parts => uptoBulkAll parts + 1
  | .iface _ d => uptoBulk d + 1
  | .map entries => uptoBulkEntries entries + 1
  | .held _ => 1
def uptoBulkAll {H : Type} : List (DataW H) → Nat
  | [] => 0
  | d :: r => uptoBulk d + uptoBulkAll r
def uptoBulkEntries {H : Type} : List (Lit × DataW H) → Nat
  | [] => 0
  | x :: r => uptoBulkEntry x + uptoBulkEntries r
def uptoBulkEntry {H : Type} : Lit × DataW H → Nat
  | (.string bytes, d) => bytes.length + uptoBulk d + 1
  | (_, d) => uptoBulk d + 1
 end
def uptoSmall : (H : Type) → List (DataW H) → Bool := fun _ ds => decide (uptoBulkAll ds ≤ 1048576)
def OpenSpec.upto (s : _root_.Go.ChangeSpec) : _root_.Go.OpenSpec := { _root_.Go.OpenSpec.ofChange s with cond := some uptoSmall }

/-- 'laws.FnChanceOk', WHERE WHAT IT READS IS OF BULK AT MOST 1048576: true; the input reads as it did. -/
def fnChanceOkUptoRow : OpenClaim := { program := "ytaplmlbpleilfaa", sum := "ed27d693f9905c3570030173ccfa50d1cdc2e19ed674be2df17c3b2838f471a3", func := "loop.example/failingnets/laws.FnChanceOk", spec := "fnChanceOk", apart := false, narrowed := true }
def FnChanceOkUptoSaid : Prop := fnChanceOkUptoRow.holds Try.pinned (OpenSpec.upto fnChanceOkSpec)

/-- 'laws.FnExactChanceOk', WHERE WHAT IT READS IS OF BULK AT MOST 1048576: true; the input reads as it did. -/
def fnExactChanceOkUptoRow : OpenClaim := { program := "ytaplmlbpleilfaa", sum := "ed27d693f9905c3570030173ccfa50d1cdc2e19ed674be2df17c3b2838f471a3", func := "loop.example/failingnets/laws.FnExactChanceOk", spec := "fnExactChanceOk", apart := false, narrowed := true }
def FnExactChanceOkUptoSaid : Prop := fnExactChanceOkUptoRow.holds Try.pinned (OpenSpec.upto fnExactChanceOkSpec)

/-- 'laws.FnWaysOf', WHERE WHAT IT READS IS OF BULK AT MOST 1048576: true; the input reads as it did. -/
def fnWaysOfUptoRow : OpenClaim := { program := "ytaplmlbpleilfaa", sum := "ed27d693f9905c3570030173ccfa50d1cdc2e19ed674be2df17c3b2838f471a3", func := "loop.example/failingnets/laws.FnWaysOf", spec := "fnWaysOf", unfollowed := true, recurses := true, apart := false, narrowed := true }
def FnWaysOfUptoSaid : Prop := fnWaysOfUptoRow.holds Try.pinned (OpenSpec.upto fnWaysOfSpec)

/-- 'laws.FnExactWaysOf', WHERE WHAT IT READS IS OF BULK AT MOST 1048576: true; the input reads as it did. -/
def fnExactWaysOfUptoRow : OpenClaim := { program := "ytaplmlbpleilfaa", sum := "ed27d693f9905c3570030173ccfa50d1cdc2e19ed674be2df17c3b2838f471a3", func := "loop.example/failingnets/laws.FnExactWaysOf", spec := "fnExactWaysOf", unfollowed := true, recurses := true, apart := false, narrowed := true }
def FnExactWaysOfUptoSaid : Prop := fnExactWaysOfUptoRow.holds Try.pinned (OpenSpec.upto fnExactWaysOfSpec)

/-- 'laws.FnJoinedWays', WHERE WHAT IT READS IS OF BULK AT MOST 1048576: true; the input reads as it did. -/
def fnJoinedWaysUptoRow : OpenClaim := { program := "ytaplmlbpleilfaa", sum := "ed27d693f9905c3570030173ccfa50d1cdc2e19ed674be2df17c3b2838f471a3", func := "loop.example/failingnets/laws.FnJoinedWays", spec := "fnJoinedWays", unfollowed := true, recurses := true, apart := false, narrowed := true }
def FnJoinedWaysUptoSaid : Prop := fnJoinedWaysUptoRow.holds Try.pinned (OpenSpec.upto fnJoinedWaysSpec)

/-- 'laws.FnExactJoinedWays', WHERE WHAT IT READS IS OF BULK AT MOST 1048576: true; the input reads as it did. -/
def fnExactJoinedWaysUptoRow : OpenClaim := { program := "ytaplmlbpleilfaa", sum := "ed27d693f9905c3570030173ccfa50d1cdc2e19ed674be2df17c3b2838f471a3", func := "loop.example/failingnets/laws.FnExactJoinedWays", spec := "fnExactJoinedWays", unfollowed := true, recurses := true, apart := false, narrowed := true }
def FnExactJoinedWaysUptoSaid : Prop := fnExactJoinedWaysUptoRow.holds Try.pinned (OpenSpec.upto fnExactJoinedWaysSpec)

/-- 'laws.FnWholeWays', WHERE WHAT IT READS IS OF BULK AT MOST 1048576: true; the input reads as it did. -/
def fnWholeWaysUptoRow : OpenClaim := { program := "ytaplmlbpleilfaa", sum := "ed27d693f9905c3570030173ccfa50d1cdc2e19ed674be2df17c3b2838f471a3", func := "loop.example/failingnets/laws.FnWholeWays", spec := "fnWholeWays", unfollowed := true, recurses := true, apart := false, narrowed := true }
def FnWholeWaysUptoSaid : Prop := fnWholeWaysUptoRow.holds Try.pinned (OpenSpec.upto fnWholeWaysSpec)

/-- 'laws.FnExactWholeWays', WHERE WHAT IT READS IS OF BULK AT MOST 1048576: true; the input reads as it did. -/
def fnExactWholeWaysUptoRow : OpenClaim := { program := "ytaplmlbpleilfaa", sum := "ed27d693f9905c3570030173ccfa50d1cdc2e19ed674be2df17c3b2838f471a3", func := "loop.example/failingnets/laws.FnExactWholeWays", spec := "fnExactWholeWays", unfollowed := true, recurses := true, apart := false, narrowed := true }
def FnExactWholeWaysUptoSaid : Prop := fnExactWholeWaysUptoRow.holds Try.pinned (OpenSpec.upto fnExactWholeWaysSpec)

/-- 'laws.FnAllWays', WHERE WHAT IT READS IS OF BULK AT MOST 1048576: true; the input reads as it did. -/
def fnAllWaysUptoRow : OpenClaim := { program := "ytaplmlbpleilfaa", sum := "ed27d693f9905c3570030173ccfa50d1cdc2e19ed674be2df17c3b2838f471a3", func := "loop.example/failingnets/laws.FnAllWays", spec := "fnAllWays", apart := false, narrowed := true }
def FnAllWaysUptoSaid : Prop := fnAllWaysUptoRow.holds Try.pinned (OpenSpec.upto fnAllWaysSpec)

/-- 'laws.FnExactAllWays', WHERE WHAT IT READS IS OF BULK AT MOST 1048576: true; the input reads as it did. -/
def fnExactAllWaysUptoRow : OpenClaim := { program := "ytaplmlbpleilfaa", sum := "ed27d693f9905c3570030173ccfa50d1cdc2e19ed674be2df17c3b2838f471a3", func := "loop.example/failingnets/laws.FnExactAllWays", spec := "fnExactAllWays", apart := false, narrowed := true }
def FnExactAllWaysUptoSaid : Prop := fnExactAllWaysUptoRow.holds Try.pinned (OpenSpec.upto fnExactAllWaysSpec)

end Rows
end Go.Proofs.Ytaplmlbpleilfaa
