/-
  No cell of these rows narrows 'for every input' (looked for: loops, veiled, ifaces, maps, wideKeys, modest, calm, conditions, laid).
  DERIVED. THE GIVEN ROWS OF THIS SEAT. 12 by the template 'for every input the law returns true; each argument reads behind the call as it read before'; 0 by the template 'total and deterministic' (their statements: YtdacfeebidhgnaaTotals.lean).
  GIVEN WITH THE SEED: the statements are not yours to turn. If you find one false, say at which input.
  Laid BY PROGRAM, IN A SANDBOX (cutbox-rows.mjs): the forced cells as the released guide's own fill.sh prints them over the translation 9a90f06672e0f416… (all of the seat's roots in one cut). By AI agents, Wed Nov 11 2026. No macro, syntax, notation, axiom, sorry.
-/
import Derived.Test.YtdacfeebidhgnaaChecked
import GoSem.Claim
import GoSem.ClaimJoined
import GoSem.ClaimMapViews
import Derived.JoinedTies
import Derived.KernelRfl
namespace Go.Proofs.Ytdacfeebidhgnaa
/- THE CELL 'sum', in the pinned program and in every row, IS THE sha256 OF THE DUMP (.gsa) THAT YtdacfeebidhgnaaProg.lean LOADS. Nothing in Lean hashes anything: it is a label: what it is worth is what the hold of that sum in a sandbox is worth. -/
noncomputable def Try.pinned : Pinned := { name := "ytdacfeebidhgnaa", sum := "9a90f06672e0f4165d52e7424ee27735cfd51e7ea45ef22734c18a774097be90", checked := Try.checked }
namespace Rows
def none {H : Type} : Left H := { results := [], args := [] }

/-- 'laws.FnExactCountNoBack': WHATEVER THE INPUT: true; the input reads as it did. -/
def fnExactCountNoBackSpec : ChangeSpec := { name := "fnExactCountNoBack", fn := fun _ => fun
  | [d] => { results := [.lit (.bool true)], args := [d] }
  | _ => none }
def fnExactCountNoBackRow : OpenClaim := { program := "ytdacfeebidhgnaa", sum := "9a90f06672e0f4165d52e7424ee27735cfd51e7ea45ef22734c18a774097be90", func := "loop.example/failingnets/laws.FnExactCountNoBack", spec := "fnExactCountNoBack", unfollowed := true, recurses := true, apart := false }
def FnExactCountNoBackSaid : Prop := fnExactCountNoBackRow.holds Try.pinned (OpenSpec.ofChange fnExactCountNoBackSpec)

/-- ITS FALSE NEIGHBOUR: 'it returns false'. Refute it at one input. -/
def fnExactCountNoBackWrong : ChangeSpec := { name := "fnExactCountNoBack", fn := fun _ => fun
  | [d] => { results := [.lit (.bool false)], args := [d] }
  | _ => none }
def FnExactCountNoBackWrongFalsely : Prop := fnExactCountNoBackRow.holds Try.pinned (OpenSpec.ofChange fnExactCountNoBackWrong)

/-- 'laws.FnExactBasesOf': WHATEVER THE INPUT: true; the input reads as it did. -/
def fnExactBasesOfSpec : ChangeSpec := { name := "fnExactBasesOf", fn := fun _ => fun
  | [d] => { results := [.lit (.bool true)], args := [d] }
  | _ => none }
def fnExactBasesOfRow : OpenClaim := { program := "ytdacfeebidhgnaa", sum := "9a90f06672e0f4165d52e7424ee27735cfd51e7ea45ef22734c18a774097be90", func := "loop.example/failingnets/laws.FnExactBasesOf", spec := "fnExactBasesOf", unfollowed := true, recurses := true, apart := false }
def FnExactBasesOfSaid : Prop := fnExactBasesOfRow.holds Try.pinned (OpenSpec.ofChange fnExactBasesOfSpec)

/-- ITS FALSE NEIGHBOUR: 'it returns false'. Refute it at one input. -/
def fnExactBasesOfWrong : ChangeSpec := { name := "fnExactBasesOf", fn := fun _ => fun
  | [d] => { results := [.lit (.bool false)], args := [d] }
  | _ => none }
def FnExactBasesOfWrongFalsely : Prop := fnExactBasesOfRow.holds Try.pinned (OpenSpec.ofChange fnExactBasesOfWrong)

/-- 'laws.FnExactActiveOf': WHATEVER THE INPUT: true; the input reads as it did. -/
def fnExactActiveOfSpec : ChangeSpec := { name := "fnExactActiveOf", fn := fun _ => fun
  | [d1, d2] => { results := [.lit (.bool true)], args := [d1, d2] }
  | _ => none }
def fnExactActiveOfRow : OpenClaim := { program := "ytdacfeebidhgnaa", sum := "9a90f06672e0f4165d52e7424ee27735cfd51e7ea45ef22734c18a774097be90", func := "loop.example/failingnets/laws.FnExactActiveOf", spec := "fnExactActiveOf", unfollowed := true, recurses := true, apart := false }
def FnExactActiveOfSaid : Prop := fnExactActiveOfRow.holds Try.pinned (OpenSpec.ofChange fnExactActiveOfSpec)

/-- ITS FALSE NEIGHBOUR: 'it returns false'. Refute it at one input. -/
def fnExactActiveOfWrong : ChangeSpec := { name := "fnExactActiveOf", fn := fun _ => fun
  | [d1, d2] => { results := [.lit (.bool false)], args := [d1, d2] }
  | _ => none }
def FnExactActiveOfWrongFalsely : Prop := fnExactActiveOfRow.holds Try.pinned (OpenSpec.ofChange fnExactActiveOfWrong)

/-- 'laws.FnExactByStates': WHATEVER THE INPUT: true; the input reads as it did. -/
def fnExactByStatesSpec : ChangeSpec := { name := "fnExactByStates", fn := fun _ => fun
  | [d1, d2, d3] => { results := [.lit (.bool true)], args := [d1, d2, d3] }
  | _ => none }
def fnExactByStatesRow : OpenClaim := { program := "ytdacfeebidhgnaa", sum := "9a90f06672e0f4165d52e7424ee27735cfd51e7ea45ef22734c18a774097be90", func := "loop.example/failingnets/laws.FnExactByStates", spec := "fnExactByStates", unfollowed := true, recurses := true, apart := false }
def FnExactByStatesSaid : Prop := fnExactByStatesRow.holds Try.pinned (OpenSpec.ofChange fnExactByStatesSpec)

/-- ITS FALSE NEIGHBOUR: 'it returns false'. Refute it at one input. -/
def fnExactByStatesWrong : ChangeSpec := { name := "fnExactByStates", fn := fun _ => fun
  | [d1, d2, d3] => { results := [.lit (.bool false)], args := [d1, d2, d3] }
  | _ => none }
def FnExactByStatesWrongFalsely : Prop := fnExactByStatesRow.holds Try.pinned (OpenSpec.ofChange fnExactByStatesWrong)

/-- 'laws.FnExactByBases': WHATEVER THE INPUT: true; the input reads as it did. -/
def fnExactByBasesSpec : ChangeSpec := { name := "fnExactByBases", fn := fun _ => fun
  | [d1, d2, d3] => { results := [.lit (.bool true)], args := [d1, d2, d3] }
  | _ => none }
def fnExactByBasesRow : OpenClaim := { program := "ytdacfeebidhgnaa", sum := "9a90f06672e0f4165d52e7424ee27735cfd51e7ea45ef22734c18a774097be90", func := "loop.example/failingnets/laws.FnExactByBases", spec := "fnExactByBases", unfollowed := true, recurses := true, apart := false }
def FnExactByBasesSaid : Prop := fnExactByBasesRow.holds Try.pinned (OpenSpec.ofChange fnExactByBasesSpec)

/-- ITS FALSE NEIGHBOUR: 'it returns false'. Refute it at one input. -/
def fnExactByBasesWrong : ChangeSpec := { name := "fnExactByBases", fn := fun _ => fun
  | [d1, d2, d3] => { results := [.lit (.bool false)], args := [d1, d2, d3] }
  | _ => none }
def FnExactByBasesWrongFalsely : Prop := fnExactByBasesRow.holds Try.pinned (OpenSpec.ofChange fnExactByBasesWrong)

/-- 'laws.FnExactByEdges': WHATEVER THE INPUT: true; the input reads as it did. -/
def fnExactByEdgesSpec : ChangeSpec := { name := "fnExactByEdges", fn := fun _ => fun
  | [d1, d2, d3] => { results := [.lit (.bool true)], args := [d1, d2, d3] }
  | _ => none }
def fnExactByEdgesRow : OpenClaim := { program := "ytdacfeebidhgnaa", sum := "9a90f06672e0f4165d52e7424ee27735cfd51e7ea45ef22734c18a774097be90", func := "loop.example/failingnets/laws.FnExactByEdges", spec := "fnExactByEdges", unfollowed := true, recurses := true, apart := false }
def FnExactByEdgesSaid : Prop := fnExactByEdgesRow.holds Try.pinned (OpenSpec.ofChange fnExactByEdgesSpec)

/-- ITS FALSE NEIGHBOUR: 'it returns false'. Refute it at one input. -/
def fnExactByEdgesWrong : ChangeSpec := { name := "fnExactByEdges", fn := fun _ => fun
  | [d1, d2, d3] => { results := [.lit (.bool false)], args := [d1, d2, d3] }
  | _ => none }
def FnExactByEdgesWrongFalsely : Prop := fnExactByEdgesRow.holds Try.pinned (OpenSpec.ofChange fnExactByEdgesWrong)

/-- 'laws.FnExactCountAllBack': WHATEVER THE INPUT: true; the input reads as it did. -/
def fnExactCountAllBackSpec : ChangeSpec := { name := "fnExactCountAllBack", fn := fun _ => fun
  | [d] => { results := [.lit (.bool true)], args := [d] }
  | _ => none }
def fnExactCountAllBackRow : OpenClaim := { program := "ytdacfeebidhgnaa", sum := "9a90f06672e0f4165d52e7424ee27735cfd51e7ea45ef22734c18a774097be90", func := "loop.example/failingnets/laws.FnExactCountAllBack", spec := "fnExactCountAllBack", unfollowed := true, recurses := true, apart := false }
def FnExactCountAllBackSaid : Prop := fnExactCountAllBackRow.holds Try.pinned (OpenSpec.ofChange fnExactCountAllBackSpec)

/-- ITS FALSE NEIGHBOUR: 'it returns false'. Refute it at one input. -/
def fnExactCountAllBackWrong : ChangeSpec := { name := "fnExactCountAllBack", fn := fun _ => fun
  | [d] => { results := [.lit (.bool false)], args := [d] }
  | _ => none }
def FnExactCountAllBackWrongFalsely : Prop := fnExactCountAllBackRow.holds Try.pinned (OpenSpec.ofChange fnExactCountAllBackWrong)

/-- 'laws.FnCountNoBack': WHATEVER THE INPUT: true; the input reads as it did. -/
def fnCountNoBackSpec : ChangeSpec := { name := "fnCountNoBack", fn := fun _ => fun
  | [d] => { results := [.lit (.bool true)], args := [d] }
  | _ => none }
def fnCountNoBackRow : OpenClaim := { program := "ytdacfeebidhgnaa", sum := "9a90f06672e0f4165d52e7424ee27735cfd51e7ea45ef22734c18a774097be90", func := "loop.example/failingnets/laws.FnCountNoBack", spec := "fnCountNoBack", unfollowed := true, recurses := true, apart := false }
def FnCountNoBackSaid : Prop := fnCountNoBackRow.holds Try.pinned (OpenSpec.ofChange fnCountNoBackSpec)

/-- ITS FALSE NEIGHBOUR: 'it returns false'. Refute it at one input. -/
def fnCountNoBackWrong : ChangeSpec := { name := "fnCountNoBack", fn := fun _ => fun
  | [d] => { results := [.lit (.bool false)], args := [d] }
  | _ => none }
def FnCountNoBackWrongFalsely : Prop := fnCountNoBackRow.holds Try.pinned (OpenSpec.ofChange fnCountNoBackWrong)

/-- 'laws.FnCountPainted': WHATEVER THE INPUT: true; the input reads as it did. -/
def fnCountPaintedSpec : ChangeSpec := { name := "fnCountPainted", fn := fun _ => fun
  | [d] => { results := [.lit (.bool true)], args := [d] }
  | _ => none }
def fnCountPaintedRow : OpenClaim := { program := "ytdacfeebidhgnaa", sum := "9a90f06672e0f4165d52e7424ee27735cfd51e7ea45ef22734c18a774097be90", func := "loop.example/failingnets/laws.FnCountPainted", spec := "fnCountPainted", unfollowed := true, recurses := true, apart := false }
def FnCountPaintedSaid : Prop := fnCountPaintedRow.holds Try.pinned (OpenSpec.ofChange fnCountPaintedSpec)

/-- ITS FALSE NEIGHBOUR: 'it returns false'. Refute it at one input. -/
def fnCountPaintedWrong : ChangeSpec := { name := "fnCountPainted", fn := fun _ => fun
  | [d] => { results := [.lit (.bool false)], args := [d] }
  | _ => none }
def FnCountPaintedWrongFalsely : Prop := fnCountPaintedRow.holds Try.pinned (OpenSpec.ofChange fnCountPaintedWrong)

/-- 'laws.FnCountFlows': WHATEVER THE INPUT: true; the input reads as it did. -/
def fnCountFlowsSpec : ChangeSpec := { name := "fnCountFlows", fn := fun _ => fun
  | [d] => { results := [.lit (.bool true)], args := [d] }
  | _ => none }
def fnCountFlowsRow : OpenClaim := { program := "ytdacfeebidhgnaa", sum := "9a90f06672e0f4165d52e7424ee27735cfd51e7ea45ef22734c18a774097be90", func := "loop.example/failingnets/laws.FnCountFlows", spec := "fnCountFlows", unfollowed := true, recurses := true, apart := false }
def FnCountFlowsSaid : Prop := fnCountFlowsRow.holds Try.pinned (OpenSpec.ofChange fnCountFlowsSpec)

/-- ITS FALSE NEIGHBOUR: 'it returns false'. Refute it at one input. -/
def fnCountFlowsWrong : ChangeSpec := { name := "fnCountFlows", fn := fun _ => fun
  | [d] => { results := [.lit (.bool false)], args := [d] }
  | _ => none }
def FnCountFlowsWrongFalsely : Prop := fnCountFlowsRow.holds Try.pinned (OpenSpec.ofChange fnCountFlowsWrong)

/-- 'laws.FnBasesOf': WHATEVER THE INPUT: true; the input reads as it did. -/
def fnBasesOfSpec : ChangeSpec := { name := "fnBasesOf", fn := fun _ => fun
  | [d] => { results := [.lit (.bool true)], args := [d] }
  | _ => none }
def fnBasesOfRow : OpenClaim := { program := "ytdacfeebidhgnaa", sum := "9a90f06672e0f4165d52e7424ee27735cfd51e7ea45ef22734c18a774097be90", func := "loop.example/failingnets/laws.FnBasesOf", spec := "fnBasesOf", unfollowed := true, recurses := true, apart := false }
def FnBasesOfSaid : Prop := fnBasesOfRow.holds Try.pinned (OpenSpec.ofChange fnBasesOfSpec)

/-- ITS FALSE NEIGHBOUR: 'it returns false'. Refute it at one input. -/
def fnBasesOfWrong : ChangeSpec := { name := "fnBasesOf", fn := fun _ => fun
  | [d] => { results := [.lit (.bool false)], args := [d] }
  | _ => none }
def FnBasesOfWrongFalsely : Prop := fnBasesOfRow.holds Try.pinned (OpenSpec.ofChange fnBasesOfWrong)

/-- 'laws.FnActiveOf': WHATEVER THE INPUT: true; the input reads as it did. -/
def fnActiveOfSpec : ChangeSpec := { name := "fnActiveOf", fn := fun _ => fun
  | [d] => { results := [.lit (.bool true)], args := [d] }
  | _ => none }
def fnActiveOfRow : OpenClaim := { program := "ytdacfeebidhgnaa", sum := "9a90f06672e0f4165d52e7424ee27735cfd51e7ea45ef22734c18a774097be90", func := "loop.example/failingnets/laws.FnActiveOf", spec := "fnActiveOf", unfollowed := true, recurses := true, apart := false }
def FnActiveOfSaid : Prop := fnActiveOfRow.holds Try.pinned (OpenSpec.ofChange fnActiveOfSpec)

/-- ITS FALSE NEIGHBOUR: 'it returns false'. Refute it at one input. -/
def fnActiveOfWrong : ChangeSpec := { name := "fnActiveOf", fn := fun _ => fun
  | [d] => { results := [.lit (.bool false)], args := [d] }
  | _ => none }
def FnActiveOfWrongFalsely : Prop := fnActiveOfRow.holds Try.pinned (OpenSpec.ofChange fnActiveOfWrong)

/- THE SECOND FORM. 'bulk': how many values and letters a reading holds, each counted each time it is reached (what is shared counts as often as it is met; a slice's spare places count too). A statement '..UptoSaid' is the law's where the arguments, and the package variables that the reading takes, are together of bulk at most 1048576: NARROWER than '..Said'. Prove '..Said' where nothing that the law and all that it calls make is longer than what came in: it says more and counts as full. Else prove '..UptoSaid'. A law counts once. -/
mutual
def uptoBulk {H : Type} : DataW H → Nat
  | .lit (.string bytes) => bytes.length + 1
  | .lit _ => 1
  | .nil => 1
  | .ptr d => uptoBulk d + 1
  | .slice elems spare => uptoBulkAll elems + uptoBulkAll spare + 1
  | .agg parts => uptoBulkAll parts + 1
  | .iface _ d => uptoBulk d + 1
  | .map entries => uptoBulkEntries entries + 1
  | .held _ => 1
def uptoBulkAll {H : Type} : List (DataW H) → Nat
  | [] => 0
  | d :: r => uptoBulk d + uptoBulkAll r
def uptoBulkEntries {H : Type} : List (Lit × DataW H) → Nat
  | [] => 0
  | x :: r => uptoBulkEntry x + uptoBulkEntries r
def uptoBulkEntry {H : Type} : Lit × DataW H → Nat
  | (.string bytes, d) => bytes.length + uptoBulk d + 1
  | (_, d) => uptoBulk d + 1
 end
def uptoSmall : (H : Type) → List (DataW H) → Bool := fun _ ds => decide (uptoBulkAll ds ≤ 1048576)
def OpenSpec.upto (s : _root_.Go.ChangeSpec) : _root_.Go.OpenSpec := { _root_.Go.OpenSpec.ofChange s with cond := some uptoSmall }

/-- 'laws.FnExactCountNoBack', WHERE WHAT IT READS IS OF BULK AT MOST 1048576: true; the input reads as it did. -/
def fnExactCountNoBackUptoRow : OpenClaim := { program := "ytdacfeebidhgnaa", sum := "9a90f06672e0f4165d52e7424ee27735cfd51e7ea45ef22734c18a774097be90", func := "loop.example/failingnets/laws.FnExactCountNoBack", spec := "fnExactCountNoBack", unfollowed := true, recurses := true, apart := false, narrowed := true }
def FnExactCountNoBackUptoSaid : Prop := fnExactCountNoBackUptoRow.holds Try.pinned (OpenSpec.upto fnExactCountNoBackSpec)

/-- 'laws.FnExactBasesOf', WHERE WHAT IT READS IS OF BULK AT MOST 1048576: true; the input reads as it did. -/
def fnExactBasesOfUptoRow : OpenClaim := { program := "ytdacfeebidhgnaa", sum := "9a90f06672e0f4165d52e7424ee27735cfd51e7ea45ef22734c18a774097be90", func := "loop.example/failingnets/laws.FnExactBasesOf", spec := "fnExactBasesOf", unfollowed := true, recurses := true, apart := false, narrowed := true }
def FnExactBasesOfUptoSaid : Prop := fnExactBasesOfUptoRow.holds Try.pinned (OpenSpec.upto fnExactBasesOfSpec)

/-- 'laws.FnExactActiveOf', WHERE WHAT IT READS IS OF BULK AT MOST 1048576: true; the input reads as it did. -/
def fnExactActiveOfUptoRow : OpenClaim := { program := "ytdacfeebidhgnaa", sum := "9a90f06672e0f4165d52e7424ee27735cfd51e7ea45ef22734c18a774097be90", func := "loop.example/failingnets/laws.FnExactActiveOf", spec := "fnExactActiveOf", unfollowed := true, recurses := true, apart := false, narrowed := true }
def FnExactActiveOfUptoSaid : Prop := fnExactActiveOfUptoRow.holds Try.pinned (OpenSpec.upto fnExactActiveOfSpec)

/-- 'laws.FnExactByStates', WHERE WHAT IT READS IS OF BULK AT MOST 1048576: true; the input reads as it did. -/
def fnExactByStatesUptoRow : OpenClaim := { program := "ytdacfeebidhgnaa", sum := "9a90f06672e0f4165d52e7424ee27735cfd51e7ea45ef22734c18a774097be90", func := "loop.example/failingnets/laws.FnExactByStates", spec := "fnExactByStates", unfollowed := true, recurses := true, apart := false, narrowed := true }
def FnExactByStatesUptoSaid : Prop := fnExactByStatesUptoRow.holds Try.pinned (OpenSpec.upto fnExactByStatesSpec)

/-- 'laws.FnExactByBases', WHERE WHAT IT READS IS OF BULK AT MOST 1048576: true; the input reads as it did. -/
def fnExactByBasesUptoRow : OpenClaim := { program := "ytdacfeebidhgnaa", sum := "9a90f06672e0f4165d52e7424ee27735cfd51e7ea45ef22734c18a774097be90", func := "loop.example/failingnets/laws.FnExactByBases", spec := "fnExactByBases", unfollowed := true, recurses := true, apart := false, narrowed := true }
def FnExactByBasesUptoSaid : Prop := fnExactByBasesUptoRow.holds Try.pinned (OpenSpec.upto fnExactByBasesSpec)

/-- 'laws.FnExactByEdges', WHERE WHAT IT READS IS OF BULK AT MOST 1048576: true; the input reads as it did. -/
def fnExactByEdgesUptoRow : OpenClaim := { program := "ytdacfeebidhgnaa", sum := "9a90f06672e0f4165d52e7424ee27735cfd51e7ea45ef22734c18a774097be90", func := "loop.example/failingnets/laws.FnExactByEdges", spec := "fnExactByEdges", unfollowed := true, recurses := true, apart := false, narrowed := true }
def FnExactByEdgesUptoSaid : Prop := fnExactByEdgesUptoRow.holds Try.pinned (OpenSpec.upto fnExactByEdgesSpec)

/-- 'laws.FnExactCountAllBack', WHERE WHAT IT READS IS OF BULK AT MOST 1048576: true; the input reads as it did. -/
def fnExactCountAllBackUptoRow : OpenClaim := { program := "ytdacfeebidhgnaa", sum := "9a90f06672e0f4165d52e7424ee27735cfd51e7ea45ef22734c18a774097be90", func := "loop.example/failingnets/laws.FnExactCountAllBack", spec := "fnExactCountAllBack", unfollowed := true, recurses := true, apart := false, narrowed := true }
def FnExactCountAllBackUptoSaid : Prop := fnExactCountAllBackUptoRow.holds Try.pinned (OpenSpec.upto fnExactCountAllBackSpec)

/-- 'laws.FnCountNoBack', WHERE WHAT IT READS IS OF BULK AT MOST 1048576: true; the input reads as it did. -/
def fnCountNoBackUptoRow : OpenClaim := { program := "ytdacfeebidhgnaa", sum := "9a90f06672e0f4165d52e7424ee27735cfd51e7ea45ef22734c18a774097be90", func := "loop.example/failingnets/laws.FnCountNoBack", spec := "fnCountNoBack", unfollowed := true, recurses := true, apart := false, narrowed := true }
def FnCountNoBackUptoSaid : Prop := fnCountNoBackUptoRow.holds Try.pinned (OpenSpec.upto fnCountNoBackSpec)

/-- 'laws.FnCountPainted', WHERE WHAT IT READS IS OF BULK AT MOST 1048576: true; the input reads as it did. -/
def fnCountPaintedUptoRow : OpenClaim := { program := "ytdacfeebidhgnaa", sum := "9a90f06672e0f4165d52e7424ee27735cfd51e7ea45ef22734c18a774097be90", func := "loop.example/failingnets/laws.FnCountPainted", spec := "fnCountPainted", unfollowed := true, recurses := true, apart := false, narrowed := true }
def FnCountPaintedUptoSaid : Prop := fnCountPaintedUptoRow.holds Try.pinned (OpenSpec.upto fnCountPaintedSpec)

/-- 'laws.FnCountFlows', WHERE WHAT IT READS IS OF BULK AT MOST 1048576: true; the input reads as it did. -/
def fnCountFlowsUptoRow : OpenClaim := { program := "ytdacfeebidhgnaa", sum := "9a90f06672e0f4165d52e7424ee27735cfd51e7ea45ef22734c18a774097be90", func := "loop.example/failingnets/laws.FnCountFlows", spec := "fnCountFlows", unfollowed := true, recurses := true, apart := false, narrowed := true }
def FnCountFlowsUptoSaid : Prop := fnCountFlowsUptoRow.holds Try.pinned (OpenSpec.upto fnCountFlowsSpec)

/-- 'laws.FnBasesOf', WHERE WHAT IT READS IS OF BULK AT MOST 1048576: true; the input reads as it did. -/
def fnBasesOfUptoRow : OpenClaim := { program := "ytdacfeebidhgnaa", sum := "9a90f06672e0f4165d52e7424ee27735cfd51e7ea45ef22734c18a774097be90", func := "loop.example/failingnets/laws.FnBasesOf", spec := "fnBasesOf", unfollowed := true, recurses := true, apart := false, narrowed := true }
def FnBasesOfUptoSaid : Prop := fnBasesOfUptoRow.holds Try.pinned (OpenSpec.upto fnBasesOfSpec)

/-- 'laws.FnActiveOf', WHERE WHAT IT READS IS OF BULK AT MOST 1048576: true; the input reads as it did. -/
def fnActiveOfUptoRow : OpenClaim := { program := "ytdacfeebidhgnaa", sum := "9a90f06672e0f4165d52e7424ee27735cfd51e7ea45ef22734c18a774097be90", func := "loop.example/failingnets/laws.FnActiveOf", spec := "fnActiveOf", unfollowed := true, recurses := true, apart := false, narrowed := true }
def FnActiveOfUptoSaid : Prop := fnActiveOfUptoRow.holds Try.pinned (OpenSpec.upto fnActiveOfSpec)

end Rows
end Go.Proofs.Ytdacfeebidhgnaa
