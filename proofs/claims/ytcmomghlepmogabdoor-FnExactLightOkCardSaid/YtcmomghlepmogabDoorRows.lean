/-
  NARROWER THAN 'FOR EVERY INPUT', by the rows' own cells (each row's printed sentence says how): FnTouchOk: laid · FnDarkOk: laid · FnLightOk: laid · FnCountDark: laid · FnExactTouchOk: laid · FnExactDarkOk: laid · FnExactLightOk: laid · FnExactCountDark: laid.
  DERIVED. THE GIVEN ROWS OF THIS SEAT. 8 by the template 'for every input the law returns true; each argument reads behind the call as it read before'; 0 by the template 'total and deterministic' (their statements: YtcmomghlepmogabDoorTotals.lean).
  GIVEN WITH THE SEED: the statements are not yours to turn. If you find one false, say at which input.
  Laid BY PROGRAM, IN A SANDBOX (cutbox-rows.mjs): the forced cells as the released guide's own fill.sh prints them over the translation 5c5f433228dcb43e… (all of the seat's roots in one cut). By AI agents, Wed Nov 11 2026. No macro, syntax, notation, axiom, sorry.
-/
import Derived.Test.YtcmomghlepmogabDoorChecked
import GoSem.Claim
import GoSem.ClaimJoined
import GoSem.ClaimMapViews
import Derived.JoinedTies
import Derived.KernelRfl
namespace Go.Proofs.YtcmomghlepmogabDoor
/- THE CELL 'sum', in the pinned program and in every row, IS THE sha256 OF THE DUMP (.gsa) THAT YtcmomghlepmogabDoorProg.lean LOADS. Nothing in Lean hashes anything: it is a label: what it is worth is what the hold of that sum in a sandbox is worth. -/
noncomputable def Tryd.pinned : Pinned := { name := "ytcmomghlepmogabdoor", sum := "5c5f433228dcb43e08160e727975b1409ef0054c1860247ee7e96bac0de30286", checked := Tryd.checked }
namespace Rows
def none {H : Type} : Left H := { results := [], args := [] }

/- WHAT THE LISTED PACKAGE-LEVEL VARIABLES READ AS WHEN THE CALL BEGINS. Each datum BY PROGRAM (the guide's laid-datum.mjs) off the statement by which the dump's own 'gosem.cut.vars' lays the variable. In a bare row this is a premise. The card (YtcmomghlepmogabDoorCards.lean) ties it to the program's text. -/
def laid_loop_example_failingnets_impl_touchSteps {H : Type} : DataW H := .agg [.agg [.lit (.int .i64 1), .lit (.int .i64 0)], .agg [.lit (.int .i64 (-1)), .lit (.int .i64 0)], .agg [.lit (.int .i64 0), .lit (.int .i64 1)], .agg [.lit (.int .i64 (-1)), .lit (.int .i64 1)], .agg [.lit (.int .i64 0), .lit (.int .i64 (-1))], .agg [.lit (.int .i64 1), .lit (.int .i64 (-1))]]
def laid_math_bits_deBruijn32tab {H : Type} : DataW H := .agg [.lit (.int .u8 0), .lit (.int .u8 1), .lit (.int .u8 28), .lit (.int .u8 2), .lit (.int .u8 29), .lit (.int .u8 14), .lit (.int .u8 24), .lit (.int .u8 3), .lit (.int .u8 30), .lit (.int .u8 22), .lit (.int .u8 20), .lit (.int .u8 15), .lit (.int .u8 25), .lit (.int .u8 17), .lit (.int .u8 4), .lit (.int .u8 8), .lit (.int .u8 31), .lit (.int .u8 27), .lit (.int .u8 13), .lit (.int .u8 23), .lit (.int .u8 21), .lit (.int .u8 19), .lit (.int .u8 16), .lit (.int .u8 7), .lit (.int .u8 26), .lit (.int .u8 12), .lit (.int .u8 18), .lit (.int .u8 6), .lit (.int .u8 11), .lit (.int .u8 5), .lit (.int .u8 10), .lit (.int .u8 9)]
def laid_math_bits_deBruijn64tab {H : Type} : DataW H := .agg [.lit (.int .u8 0), .lit (.int .u8 1), .lit (.int .u8 56), .lit (.int .u8 2), .lit (.int .u8 57), .lit (.int .u8 49), .lit (.int .u8 28), .lit (.int .u8 3), .lit (.int .u8 61), .lit (.int .u8 58), .lit (.int .u8 42), .lit (.int .u8 50), .lit (.int .u8 38), .lit (.int .u8 29), .lit (.int .u8 17), .lit (.int .u8 4), .lit (.int .u8 62), .lit (.int .u8 47), .lit (.int .u8 59), .lit (.int .u8 36), .lit (.int .u8 45), .lit (.int .u8 43), .lit (.int .u8 51), .lit (.int .u8 22), .lit (.int .u8 53), .lit (.int .u8 39), .lit (.int .u8 33), .lit (.int .u8 30), .lit (.int .u8 24), .lit (.int .u8 18), .lit (.int .u8 12), .lit (.int .u8 5), .lit (.int .u8 63), .lit (.int .u8 55), .lit (.int .u8 48), .lit (.int .u8 27), .lit (.int .u8 60), .lit (.int .u8 41), .lit (.int .u8 37), .lit (.int .u8 16), .lit (.int .u8 46), .lit (.int .u8 35), .lit (.int .u8 44), .lit (.int .u8 21), .lit (.int .u8 52), .lit (.int .u8 32), .lit (.int .u8 23), .lit (.int .u8 11), .lit (.int .u8 54), .lit (.int .u8 26), .lit (.int .u8 40), .lit (.int .u8 15), .lit (.int .u8 34), .lit (.int .u8 20), .lit (.int .u8 31), .lit (.int .u8 10), .lit (.int .u8 25), .lit (.int .u8 14), .lit (.int .u8 19), .lit (.int .u8 9), .lit (.int .u8 13), .lit (.int .u8 8), .lit (.int .u8 7), .lit (.int .u8 6)]

/-- 'laws.FnTouchOk': WHATEVER THE INPUT: true; the input reads as it did. -/
def fnTouchOkSpec : ChangeSpec := { name := "fnTouchOk", vars := ["loop.example/failingnets/impl.touchSteps"], fn := fun _ => fun
  | [d, g1] => { results := [.lit (.bool true)], args := [d], vars := [g1] }
  | _ => none }
def fnTouchOkRow : OpenClaim := { program := "ytcmomghlepmogabdoor", sum := "5c5f433228dcb43e08160e727975b1409ef0054c1860247ee7e96bac0de30286", func := "loop.example/failingnets/laws.FnTouchOk", spec := "fnTouchOk", named := ["loop.example/failingnets/impl.touchSteps"], apart := false, laid := [("loop.example/failingnets/impl.touchSteps", laid_loop_example_failingnets_impl_touchSteps)] }
def FnTouchOkSaid : Prop := fnTouchOkRow.holds Tryd.pinned (OpenSpec.ofChange fnTouchOkSpec)

/-- ITS FALSE NEIGHBOUR: 'it returns false'. Refute it at one input. -/
def fnTouchOkWrong : ChangeSpec := { name := "fnTouchOk", vars := ["loop.example/failingnets/impl.touchSteps"], fn := fun _ => fun
  | [d, g1] => { results := [.lit (.bool false)], args := [d], vars := [g1] }
  | _ => none }
def FnTouchOkWrongFalsely : Prop := fnTouchOkRow.holds Tryd.pinned (OpenSpec.ofChange fnTouchOkWrong)

/-- 'laws.FnDarkOk': WHATEVER THE INPUT: true; the input reads as it did. -/
def fnDarkOkSpec : ChangeSpec := { name := "fnDarkOk", vars := ["loop.example/failingnets/impl.touchSteps"], fn := fun _ => fun
  | [d, g1] => { results := [.lit (.bool true)], args := [d], vars := [g1] }
  | _ => none }
def fnDarkOkRow : OpenClaim := { program := "ytcmomghlepmogabdoor", sum := "5c5f433228dcb43e08160e727975b1409ef0054c1860247ee7e96bac0de30286", func := "loop.example/failingnets/laws.FnDarkOk", spec := "fnDarkOk", unfollowed := true, recurses := true, named := ["loop.example/failingnets/impl.touchSteps", "math/bits.deBruijn32tab", "math/bits.deBruijn64tab"], apart := false, laid := [("math/bits.deBruijn32tab", laid_math_bits_deBruijn32tab), ("math/bits.deBruijn64tab", laid_math_bits_deBruijn64tab), ("loop.example/failingnets/impl.touchSteps", laid_loop_example_failingnets_impl_touchSteps)] }
def FnDarkOkSaid : Prop := fnDarkOkRow.holds Tryd.pinned (OpenSpec.ofChange fnDarkOkSpec)

/-- ITS FALSE NEIGHBOUR: 'it returns false'. Refute it at one input. -/
def fnDarkOkWrong : ChangeSpec := { name := "fnDarkOk", vars := ["loop.example/failingnets/impl.touchSteps"], fn := fun _ => fun
  | [d, g1] => { results := [.lit (.bool false)], args := [d], vars := [g1] }
  | _ => none }
def FnDarkOkWrongFalsely : Prop := fnDarkOkRow.holds Tryd.pinned (OpenSpec.ofChange fnDarkOkWrong)

/-- 'laws.FnLightOk': WHATEVER THE INPUT: true; the input reads as it did. -/
def fnLightOkSpec : ChangeSpec := { name := "fnLightOk", vars := ["loop.example/failingnets/impl.touchSteps"], fn := fun _ => fun
  | [d, g1] => { results := [.lit (.bool true)], args := [d], vars := [g1] }
  | _ => none }
def fnLightOkRow : OpenClaim := { program := "ytcmomghlepmogabdoor", sum := "5c5f433228dcb43e08160e727975b1409ef0054c1860247ee7e96bac0de30286", func := "loop.example/failingnets/laws.FnLightOk", spec := "fnLightOk", unfollowed := true, recurses := true, named := ["loop.example/failingnets/impl.touchSteps", "math/bits.deBruijn32tab", "math/bits.deBruijn64tab"], apart := false, laid := [("math/bits.deBruijn32tab", laid_math_bits_deBruijn32tab), ("math/bits.deBruijn64tab", laid_math_bits_deBruijn64tab), ("loop.example/failingnets/impl.touchSteps", laid_loop_example_failingnets_impl_touchSteps)] }
def FnLightOkSaid : Prop := fnLightOkRow.holds Tryd.pinned (OpenSpec.ofChange fnLightOkSpec)

/-- ITS FALSE NEIGHBOUR: 'it returns false'. Refute it at one input. -/
def fnLightOkWrong : ChangeSpec := { name := "fnLightOk", vars := ["loop.example/failingnets/impl.touchSteps"], fn := fun _ => fun
  | [d, g1] => { results := [.lit (.bool false)], args := [d], vars := [g1] }
  | _ => none }
def FnLightOkWrongFalsely : Prop := fnLightOkRow.holds Tryd.pinned (OpenSpec.ofChange fnLightOkWrong)

/-- 'laws.FnCountDark': WHATEVER THE INPUT: true; the input reads as it did. -/
def fnCountDarkSpec : ChangeSpec := { name := "fnCountDark", vars := ["loop.example/failingnets/impl.touchSteps"], fn := fun _ => fun
  | [d, g1] => { results := [.lit (.bool true)], args := [d], vars := [g1] }
  | _ => none }
def fnCountDarkRow : OpenClaim := { program := "ytcmomghlepmogabdoor", sum := "5c5f433228dcb43e08160e727975b1409ef0054c1860247ee7e96bac0de30286", func := "loop.example/failingnets/laws.FnCountDark", spec := "fnCountDark", unfollowed := true, recurses := true, named := ["loop.example/failingnets/impl.touchSteps", "math/bits.deBruijn32tab", "math/bits.deBruijn64tab"], apart := false, laid := [("math/bits.deBruijn32tab", laid_math_bits_deBruijn32tab), ("math/bits.deBruijn64tab", laid_math_bits_deBruijn64tab), ("loop.example/failingnets/impl.touchSteps", laid_loop_example_failingnets_impl_touchSteps)] }
def FnCountDarkSaid : Prop := fnCountDarkRow.holds Tryd.pinned (OpenSpec.ofChange fnCountDarkSpec)

/-- ITS FALSE NEIGHBOUR: 'it returns false'. Refute it at one input. -/
def fnCountDarkWrong : ChangeSpec := { name := "fnCountDark", vars := ["loop.example/failingnets/impl.touchSteps"], fn := fun _ => fun
  | [d, g1] => { results := [.lit (.bool false)], args := [d], vars := [g1] }
  | _ => none }
def FnCountDarkWrongFalsely : Prop := fnCountDarkRow.holds Tryd.pinned (OpenSpec.ofChange fnCountDarkWrong)

/-- 'laws.FnExactTouchOk': WHATEVER THE INPUT: true; the input reads as it did. -/
def fnExactTouchOkSpec : ChangeSpec := { name := "fnExactTouchOk", vars := ["loop.example/failingnets/impl.touchSteps"], fn := fun _ => fun
  | [d1, d2, d3, d4, g1] => { results := [.lit (.bool true)], args := [d1, d2, d3, d4], vars := [g1] }
  | _ => none }
def fnExactTouchOkRow : OpenClaim := { program := "ytcmomghlepmogabdoor", sum := "5c5f433228dcb43e08160e727975b1409ef0054c1860247ee7e96bac0de30286", func := "loop.example/failingnets/laws.FnExactTouchOk", spec := "fnExactTouchOk", named := ["loop.example/failingnets/impl.touchSteps"], apart := false, laid := [("loop.example/failingnets/impl.touchSteps", laid_loop_example_failingnets_impl_touchSteps)] }
def FnExactTouchOkSaid : Prop := fnExactTouchOkRow.holds Tryd.pinned (OpenSpec.ofChange fnExactTouchOkSpec)

/-- ITS FALSE NEIGHBOUR: 'it returns false'. Refute it at one input. -/
def fnExactTouchOkWrong : ChangeSpec := { name := "fnExactTouchOk", vars := ["loop.example/failingnets/impl.touchSteps"], fn := fun _ => fun
  | [d1, d2, d3, d4, g1] => { results := [.lit (.bool false)], args := [d1, d2, d3, d4], vars := [g1] }
  | _ => none }
def FnExactTouchOkWrongFalsely : Prop := fnExactTouchOkRow.holds Tryd.pinned (OpenSpec.ofChange fnExactTouchOkWrong)

/-- 'laws.FnExactDarkOk': WHATEVER THE INPUT: true; the input reads as it did. -/
def fnExactDarkOkSpec : ChangeSpec := { name := "fnExactDarkOk", vars := ["loop.example/failingnets/impl.touchSteps"], fn := fun _ => fun
  | [d1, d2, d3, g1] => { results := [.lit (.bool true)], args := [d1, d2, d3], vars := [g1] }
  | _ => none }
def fnExactDarkOkRow : OpenClaim := { program := "ytcmomghlepmogabdoor", sum := "5c5f433228dcb43e08160e727975b1409ef0054c1860247ee7e96bac0de30286", func := "loop.example/failingnets/laws.FnExactDarkOk", spec := "fnExactDarkOk", unfollowed := true, recurses := true, named := ["loop.example/failingnets/impl.touchSteps", "math/bits.deBruijn32tab", "math/bits.deBruijn64tab"], apart := false, laid := [("math/bits.deBruijn32tab", laid_math_bits_deBruijn32tab), ("math/bits.deBruijn64tab", laid_math_bits_deBruijn64tab), ("loop.example/failingnets/impl.touchSteps", laid_loop_example_failingnets_impl_touchSteps)] }
def FnExactDarkOkSaid : Prop := fnExactDarkOkRow.holds Tryd.pinned (OpenSpec.ofChange fnExactDarkOkSpec)

/-- ITS FALSE NEIGHBOUR: 'it returns false'. Refute it at one input. -/
def fnExactDarkOkWrong : ChangeSpec := { name := "fnExactDarkOk", vars := ["loop.example/failingnets/impl.touchSteps"], fn := fun _ => fun
  | [d1, d2, d3, g1] => { results := [.lit (.bool false)], args := [d1, d2, d3], vars := [g1] }
  | _ => none }
def FnExactDarkOkWrongFalsely : Prop := fnExactDarkOkRow.holds Tryd.pinned (OpenSpec.ofChange fnExactDarkOkWrong)

/-- 'laws.FnExactLightOk': WHATEVER THE INPUT: true; the input reads as it did. -/
def fnExactLightOkSpec : ChangeSpec := { name := "fnExactLightOk", vars := ["loop.example/failingnets/impl.touchSteps"], fn := fun _ => fun
  | [d1, d2, d3, g1] => { results := [.lit (.bool true)], args := [d1, d2, d3], vars := [g1] }
  | _ => none }
def fnExactLightOkRow : OpenClaim := { program := "ytcmomghlepmogabdoor", sum := "5c5f433228dcb43e08160e727975b1409ef0054c1860247ee7e96bac0de30286", func := "loop.example/failingnets/laws.FnExactLightOk", spec := "fnExactLightOk", unfollowed := true, recurses := true, named := ["loop.example/failingnets/impl.touchSteps", "math/bits.deBruijn32tab", "math/bits.deBruijn64tab"], apart := false, laid := [("math/bits.deBruijn32tab", laid_math_bits_deBruijn32tab), ("math/bits.deBruijn64tab", laid_math_bits_deBruijn64tab), ("loop.example/failingnets/impl.touchSteps", laid_loop_example_failingnets_impl_touchSteps)] }
def FnExactLightOkSaid : Prop := fnExactLightOkRow.holds Tryd.pinned (OpenSpec.ofChange fnExactLightOkSpec)

/-- ITS FALSE NEIGHBOUR: 'it returns false'. Refute it at one input. -/
def fnExactLightOkWrong : ChangeSpec := { name := "fnExactLightOk", vars := ["loop.example/failingnets/impl.touchSteps"], fn := fun _ => fun
  | [d1, d2, d3, g1] => { results := [.lit (.bool false)], args := [d1, d2, d3], vars := [g1] }
  | _ => none }
def FnExactLightOkWrongFalsely : Prop := fnExactLightOkRow.holds Tryd.pinned (OpenSpec.ofChange fnExactLightOkWrong)

/-- 'laws.FnExactCountDark': WHATEVER THE INPUT: true; the input reads as it did. -/
def fnExactCountDarkSpec : ChangeSpec := { name := "fnExactCountDark", vars := ["loop.example/failingnets/impl.touchSteps"], fn := fun _ => fun
  | [d1, d2, g1] => { results := [.lit (.bool true)], args := [d1, d2], vars := [g1] }
  | _ => none }
def fnExactCountDarkRow : OpenClaim := { program := "ytcmomghlepmogabdoor", sum := "5c5f433228dcb43e08160e727975b1409ef0054c1860247ee7e96bac0de30286", func := "loop.example/failingnets/laws.FnExactCountDark", spec := "fnExactCountDark", unfollowed := true, recurses := true, named := ["loop.example/failingnets/impl.touchSteps", "math/bits.deBruijn32tab", "math/bits.deBruijn64tab"], apart := false, laid := [("math/bits.deBruijn32tab", laid_math_bits_deBruijn32tab), ("math/bits.deBruijn64tab", laid_math_bits_deBruijn64tab), ("loop.example/failingnets/impl.touchSteps", laid_loop_example_failingnets_impl_touchSteps)] }
def FnExactCountDarkSaid : Prop := fnExactCountDarkRow.holds Tryd.pinned (OpenSpec.ofChange fnExactCountDarkSpec)

/-- ITS FALSE NEIGHBOUR: 'it returns false'. Refute it at one input. -/
def fnExactCountDarkWrong : ChangeSpec := { name := "fnExactCountDark", vars := ["loop.example/failingnets/impl.touchSteps"], fn := fun _ => fun
  | [d1, d2, g1] => { results := [.lit (.bool false)], args := [d1, d2], vars := [g1] }
  | _ => none }
def FnExactCountDarkWrongFalsely : Prop := fnExactCountDarkRow.holds Tryd.pinned (OpenSpec.ofChange fnExactCountDarkWrong)

/- THE SECOND FORM. 'bulk': how many values and letters a reading holds, each counted each time it is reached (what is shared counts as often as it is met; a slice's spare places count too). A statement '..UptoSaid' is the law's where the arguments, and the package variables that the reading takes, are together of bulk at most 1048576: NARROWER than '..Said'. Prove '..Said' where nothing that the law and all that it calls make is longer than what came in: it says more and counts as full. Else prove '..UptoSaid'. A law counts once. -/
mutual
def uptoBulk {H : Type} : DataW H → Nat
  | .lit (.string bytes) => bytes.length + 1
  | .lit _ => 1
  | .nil => 1
  | .ptr d => uptoBulk d + 1
  | .slice elems spare => uptoBulkAll elems + uptoBulkAll spare + 1
  | .agg parts => uptoBulkAll parts + 1
  | .iface _ d => uptoBulk d + 1
  | .map entries => uptoBulkEntries entries + 1
  | .held _ => 1
def uptoBulkAll {H : Type} : List (DataW H) → Nat
  | [] => 0
  | d :: r => uptoBulk d + uptoBulkAll r
def uptoBulkEntries {H : Type} : List (Lit × DataW H) → Nat
  | [] => 0
  | x :: r => uptoBulkEntry x + uptoBulkEntries r
def uptoBulkEntry {H : Type} : Lit × DataW H → Nat
  | (.string bytes, d) => bytes.length + uptoBulk d + 1
  | (_, d) => uptoBulk d + 1
 end
def uptoSmall : (H : Type) → List (DataW H) → Bool := fun _ ds => decide (uptoBulkAll ds ≤ 1048576)
def OpenSpec.upto (s : _root_.Go.ChangeSpec) : _root_.Go.OpenSpec := { _root_.Go.OpenSpec.ofChange s with cond := some uptoSmall }

/-- 'laws.FnTouchOk', WHERE WHAT IT READS IS OF BULK AT MOST 1048576: true; the input reads as it did. -/
def fnTouchOkUptoRow : OpenClaim := { program := "ytcmomghlepmogabdoor", sum := "5c5f433228dcb43e08160e727975b1409ef0054c1860247ee7e96bac0de30286", func := "loop.example/failingnets/laws.FnTouchOk", spec := "fnTouchOk", named := ["loop.example/failingnets/impl.touchSteps"], apart := false, laid := [("loop.example/failingnets/impl.touchSteps", laid_loop_example_failingnets_impl_touchSteps)], narrowed := true }
def FnTouchOkUptoSaid : Prop := fnTouchOkUptoRow.holds Tryd.pinned (OpenSpec.upto fnTouchOkSpec)

/-- 'laws.FnDarkOk', WHERE WHAT IT READS IS OF BULK AT MOST 1048576: true; the input reads as it did. -/
def fnDarkOkUptoRow : OpenClaim := { program := "ytcmomghlepmogabdoor", sum := "5c5f433228dcb43e08160e727975b1409ef0054c1860247ee7e96bac0de30286", func := "loop.example/failingnets/laws.FnDarkOk", spec := "fnDarkOk", unfollowed := true, recurses := true, named := ["loop.example/failingnets/impl.touchSteps", "math/bits.deBruijn32tab", "math/bits.deBruijn64tab"], apart := false, laid := [("math/bits.deBruijn32tab", laid_math_bits_deBruijn32tab), ("math/bits.deBruijn64tab", laid_math_bits_deBruijn64tab), ("loop.example/failingnets/impl.touchSteps", laid_loop_example_failingnets_impl_touchSteps)], narrowed := true }
def FnDarkOkUptoSaid : Prop := fnDarkOkUptoRow.holds Tryd.pinned (OpenSpec.upto fnDarkOkSpec)

/-- 'laws.FnLightOk', WHERE WHAT IT READS IS OF BULK AT MOST 1048576: true; the input reads as it did. -/
def fnLightOkUptoRow : OpenClaim := { program := "ytcmomghlepmogabdoor", sum := "5c5f433228dcb43e08160e727975b1409ef0054c1860247ee7e96bac0de30286", func := "loop.example/failingnets/laws.FnLightOk", spec := "fnLightOk", unfollowed := true, recurses := true, named := ["loop.example/failingnets/impl.touchSteps", "math/bits.deBruijn32tab", "math/bits.deBruijn64tab"], apart := false, laid := [("math/bits.deBruijn32tab", laid_math_bits_deBruijn32tab), ("math/bits.deBruijn64tab", laid_math_bits_deBruijn64tab), ("loop.example/failingnets/impl.touchSteps", laid_loop_example_failingnets_impl_touchSteps)], narrowed := true }
def FnLightOkUptoSaid : Prop := fnLightOkUptoRow.holds Tryd.pinned (OpenSpec.upto fnLightOkSpec)

/-- 'laws.FnCountDark', WHERE WHAT IT READS IS OF BULK AT MOST 1048576: true; the input reads as it did. -/
def fnCountDarkUptoRow : OpenClaim := { program := "ytcmomghlepmogabdoor", sum := "5c5f433228dcb43e08160e727975b1409ef0054c1860247ee7e96bac0de30286", func := "loop.example/failingnets/laws.FnCountDark", spec := "fnCountDark", unfollowed := true, recurses := true, named := ["loop.example/failingnets/impl.touchSteps", "math/bits.deBruijn32tab", "math/bits.deBruijn64tab"], apart := false, laid := [("math/bits.deBruijn32tab", laid_math_bits_deBruijn32tab), ("math/bits.deBruijn64tab", laid_math_bits_deBruijn64tab), ("loop.example/failingnets/impl.touchSteps", laid_loop_example_failingnets_impl_touchSteps)], narrowed := true }
def FnCountDarkUptoSaid : Prop := fnCountDarkUptoRow.holds Tryd.pinned (OpenSpec.upto fnCountDarkSpec)

/-- 'laws.FnExactTouchOk', WHERE WHAT IT READS IS OF BULK AT MOST 1048576: true; the input reads as it did. -/
def fnExactTouchOkUptoRow : OpenClaim := { program := "ytcmomghlepmogabdoor", sum := "5c5f433228dcb43e08160e727975b1409ef0054c1860247ee7e96bac0de30286", func := "loop.example/failingnets/laws.FnExactTouchOk", spec := "fnExactTouchOk", named := ["loop.example/failingnets/impl.touchSteps"], apart := false, laid := [("loop.example/failingnets/impl.touchSteps", laid_loop_example_failingnets_impl_touchSteps)], narrowed := true }
def FnExactTouchOkUptoSaid : Prop := fnExactTouchOkUptoRow.holds Tryd.pinned (OpenSpec.upto fnExactTouchOkSpec)

/-- 'laws.FnExactDarkOk', WHERE WHAT IT READS IS OF BULK AT MOST 1048576: true; the input reads as it did. -/
def fnExactDarkOkUptoRow : OpenClaim := { program := "ytcmomghlepmogabdoor", sum := "5c5f433228dcb43e08160e727975b1409ef0054c1860247ee7e96bac0de30286", func := "loop.example/failingnets/laws.FnExactDarkOk", spec := "fnExactDarkOk", unfollowed := true, recurses := true, named := ["loop.example/failingnets/impl.touchSteps", "math/bits.deBruijn32tab", "math/bits.deBruijn64tab"], apart := false, laid := [("math/bits.deBruijn32tab", laid_math_bits_deBruijn32tab), ("math/bits.deBruijn64tab", laid_math_bits_deBruijn64tab), ("loop.example/failingnets/impl.touchSteps", laid_loop_example_failingnets_impl_touchSteps)], narrowed := true }
def FnExactDarkOkUptoSaid : Prop := fnExactDarkOkUptoRow.holds Tryd.pinned (OpenSpec.upto fnExactDarkOkSpec)

/-- 'laws.FnExactLightOk', WHERE WHAT IT READS IS OF BULK AT MOST 1048576: true; the input reads as it did. -/
def fnExactLightOkUptoRow : OpenClaim := { program := "ytcmomghlepmogabdoor", sum := "5c5f433228dcb43e08160e727975b1409ef0054c1860247ee7e96bac0de30286", func := "loop.example/failingnets/laws.FnExactLightOk", spec := "fnExactLightOk", unfollowed := true, recurses := true, named := ["loop.example/failingnets/impl.touchSteps", "math/bits.deBruijn32tab", "math/bits.deBruijn64tab"], apart := false, laid := [("math/bits.deBruijn32tab", laid_math_bits_deBruijn32tab), ("math/bits.deBruijn64tab", laid_math_bits_deBruijn64tab), ("loop.example/failingnets/impl.touchSteps", laid_loop_example_failingnets_impl_touchSteps)], narrowed := true }
def FnExactLightOkUptoSaid : Prop := fnExactLightOkUptoRow.holds Tryd.pinned (OpenSpec.upto fnExactLightOkSpec)

/-- 'laws.FnExactCountDark', WHERE WHAT IT READS IS OF BULK AT MOST 1048576: true; the input reads as it did. -/
def fnExactCountDarkUptoRow : OpenClaim := { program := "ytcmomghlepmogabdoor", sum := "5c5f433228dcb43e08160e727975b1409ef0054c1860247ee7e96bac0de30286", func := "loop.example/failingnets/laws.FnExactCountDark", spec := "fnExactCountDark", unfollowed := true, recurses := true, named := ["loop.example/failingnets/impl.touchSteps", "math/bits.deBruijn32tab", "math/bits.deBruijn64tab"], apart := false, laid := [("math/bits.deBruijn32tab", laid_math_bits_deBruijn32tab), ("math/bits.deBruijn64tab", laid_math_bits_deBruijn64tab), ("loop.example/failingnets/impl.touchSteps", laid_loop_example_failingnets_impl_touchSteps)], narrowed := true }
def FnExactCountDarkUptoSaid : Prop := fnExactCountDarkUptoRow.holds Tryd.pinned (OpenSpec.upto fnExactCountDarkSpec)

end Rows
end Go.Proofs.YtcmomghlepmogabDoor
