/-
  NARROWER THAN 'FOR EVERY INPUT', by the rows' own cells (each row's printed sentence says how): FnLeadsOk: laid · FnPassesOk: laid · FnCountLeads: laid · FnExactLeadsOk: laid · FnExactPassesOk: laid · FnExactCountLeads: laid · FnCrossingRows: laid.
  DERIVED. THE GIVEN ROWS OF THIS SEAT. 7 by the template 'for every input the law returns true; each argument reads behind the call as it read before'; 0 by the template 'total and deterministic' (their statements: YtcmomghlepmogaaDoorTotals.lean).
  GIVEN WITH THE SEED: the statements are not yours to turn. If you find one false, say at which input.
  Laid BY PROGRAM, IN A SANDBOX (cutbox-rows.mjs): the forced cells as the released guide's own fill.sh prints them over the translation 024a0841c69ab9f4… (all of the seat's roots in one cut). By AI agents, Wed Nov 11 2026. No macro, syntax, notation, axiom, sorry.
-/
import Derived.Test.YtcmomghlepmogaaDoorChecked
import GoSem.Claim
import GoSem.ClaimJoined
import GoSem.ClaimMapViews
import Derived.JoinedTies
import Derived.KernelRfl
namespace Go.Proofs.YtcmomghlepmogaaDoor
/- THE CELL 'sum', in the pinned program and in every row, IS THE sha256 OF THE DUMP (.gsa) THAT YtcmomghlepmogaaDoorProg.lean LOADS. Nothing in Lean hashes anything: it is a label: what it is worth is what the hold of that sum in a sandbox is worth. -/
noncomputable def Tryd.pinned : Pinned := { name := "ytcmomghlepmogaadoor", sum := "024a0841c69ab9f4ec3666a30f192e62f74644a8ac599ce4dd22a5642f83e50b", checked := Tryd.checked }
namespace Rows
def none {H : Type} : Left H := { results := [], args := [] }

/- WHAT THE LISTED PACKAGE-LEVEL VARIABLES READ AS WHEN THE CALL BEGINS. Each datum BY PROGRAM (the guide's laid-datum.mjs) off the statement by which the dump's own 'gosem.cut.vars' lays the variable. In a bare row this is a premise. The card (YtcmomghlepmogaaDoorCards.lean) ties it to the program's text. -/
def laid_math_bits_deBruijn32tab {H : Type} : DataW H := .agg [.lit (.int .u8 0), .lit (.int .u8 1), .lit (.int .u8 28), .lit (.int .u8 2), .lit (.int .u8 29), .lit (.int .u8 14), .lit (.int .u8 24), .lit (.int .u8 3), .lit (.int .u8 30), .lit (.int .u8 22), .lit (.int .u8 20), .lit (.int .u8 15), .lit (.int .u8 25), .lit (.int .u8 17), .lit (.int .u8 4), .lit (.int .u8 8), .lit (.int .u8 31), .lit (.int .u8 27), .lit (.int .u8 13), .lit (.int .u8 23), .lit (.int .u8 21), .lit (.int .u8 19), .lit (.int .u8 16), .lit (.int .u8 7), .lit (.int .u8 26), .lit (.int .u8 12), .lit (.int .u8 18), .lit (.int .u8 6), .lit (.int .u8 11), .lit (.int .u8 5), .lit (.int .u8 10), .lit (.int .u8 9)]
def laid_math_bits_deBruijn64tab {H : Type} : DataW H := .agg [.lit (.int .u8 0), .lit (.int .u8 1), .lit (.int .u8 56), .lit (.int .u8 2), .lit (.int .u8 57), .lit (.int .u8 49), .lit (.int .u8 28), .lit (.int .u8 3), .lit (.int .u8 61), .lit (.int .u8 58), .lit (.int .u8 42), .lit (.int .u8 50), .lit (.int .u8 38), .lit (.int .u8 29), .lit (.int .u8 17), .lit (.int .u8 4), .lit (.int .u8 62), .lit (.int .u8 47), .lit (.int .u8 59), .lit (.int .u8 36), .lit (.int .u8 45), .lit (.int .u8 43), .lit (.int .u8 51), .lit (.int .u8 22), .lit (.int .u8 53), .lit (.int .u8 39), .lit (.int .u8 33), .lit (.int .u8 30), .lit (.int .u8 24), .lit (.int .u8 18), .lit (.int .u8 12), .lit (.int .u8 5), .lit (.int .u8 63), .lit (.int .u8 55), .lit (.int .u8 48), .lit (.int .u8 27), .lit (.int .u8 60), .lit (.int .u8 41), .lit (.int .u8 37), .lit (.int .u8 16), .lit (.int .u8 46), .lit (.int .u8 35), .lit (.int .u8 44), .lit (.int .u8 21), .lit (.int .u8 52), .lit (.int .u8 32), .lit (.int .u8 23), .lit (.int .u8 11), .lit (.int .u8 54), .lit (.int .u8 26), .lit (.int .u8 40), .lit (.int .u8 15), .lit (.int .u8 34), .lit (.int .u8 20), .lit (.int .u8 31), .lit (.int .u8 10), .lit (.int .u8 25), .lit (.int .u8 14), .lit (.int .u8 19), .lit (.int .u8 9), .lit (.int .u8 13), .lit (.int .u8 8), .lit (.int .u8 7), .lit (.int .u8 6)]
def laid_loop_example_failingnets_impl_sideSteps {H : Type} : DataW H := .agg [.agg [.lit (.int .i64 1), .lit (.int .i64 0)], .agg [.lit (.int .i64 (-1)), .lit (.int .i64 0)], .agg [.lit (.int .i64 0), .lit (.int .i64 1)], .agg [.lit (.int .i64 0), .lit (.int .i64 (-1))]]
def laid_loop_example_failingnets_impl_touchSteps {H : Type} : DataW H := .agg [.agg [.lit (.int .i64 1), .lit (.int .i64 0)], .agg [.lit (.int .i64 (-1)), .lit (.int .i64 0)], .agg [.lit (.int .i64 0), .lit (.int .i64 1)], .agg [.lit (.int .i64 (-1)), .lit (.int .i64 1)], .agg [.lit (.int .i64 0), .lit (.int .i64 (-1))], .agg [.lit (.int .i64 1), .lit (.int .i64 (-1))]]

/-- 'laws.FnLeadsOk': WHATEVER THE INPUT: true; the input reads as it did. -/
def fnLeadsOkSpec : ChangeSpec := { name := "fnLeadsOk", vars := ["loop.example/failingnets/impl.sideSteps"], fn := fun _ => fun
  | [d, g1] => { results := [.lit (.bool true)], args := [d], vars := [g1] }
  | _ => none }
def fnLeadsOkRow : OpenClaim := { program := "ytcmomghlepmogaadoor", sum := "024a0841c69ab9f4ec3666a30f192e62f74644a8ac599ce4dd22a5642f83e50b", func := "loop.example/failingnets/laws.FnLeadsOk", spec := "fnLeadsOk", unfollowed := true, recurses := true, named := ["loop.example/failingnets/impl.sideSteps", "math/bits.deBruijn32tab", "math/bits.deBruijn64tab"], apart := false, laid := [("math/bits.deBruijn32tab", laid_math_bits_deBruijn32tab), ("math/bits.deBruijn64tab", laid_math_bits_deBruijn64tab), ("loop.example/failingnets/impl.sideSteps", laid_loop_example_failingnets_impl_sideSteps)] }
def FnLeadsOkSaid : Prop := fnLeadsOkRow.holds Tryd.pinned (OpenSpec.ofChange fnLeadsOkSpec)

/-- ITS FALSE NEIGHBOUR: 'it returns false'. Refute it at one input. -/
def fnLeadsOkWrong : ChangeSpec := { name := "fnLeadsOk", vars := ["loop.example/failingnets/impl.sideSteps"], fn := fun _ => fun
  | [d, g1] => { results := [.lit (.bool false)], args := [d], vars := [g1] }
  | _ => none }
def FnLeadsOkWrongFalsely : Prop := fnLeadsOkRow.holds Tryd.pinned (OpenSpec.ofChange fnLeadsOkWrong)

/-- 'laws.FnPassesOk': WHATEVER THE INPUT: true; the input reads as it did. -/
def fnPassesOkSpec : ChangeSpec := { name := "fnPassesOk", vars := ["loop.example/failingnets/impl.sideSteps"], fn := fun _ => fun
  | [d, g1] => { results := [.lit (.bool true)], args := [d], vars := [g1] }
  | _ => none }
def fnPassesOkRow : OpenClaim := { program := "ytcmomghlepmogaadoor", sum := "024a0841c69ab9f4ec3666a30f192e62f74644a8ac599ce4dd22a5642f83e50b", func := "loop.example/failingnets/laws.FnPassesOk", spec := "fnPassesOk", unfollowed := true, recurses := true, named := ["loop.example/failingnets/impl.sideSteps", "math/bits.deBruijn32tab", "math/bits.deBruijn64tab"], apart := false, laid := [("math/bits.deBruijn32tab", laid_math_bits_deBruijn32tab), ("math/bits.deBruijn64tab", laid_math_bits_deBruijn64tab), ("loop.example/failingnets/impl.sideSteps", laid_loop_example_failingnets_impl_sideSteps)] }
def FnPassesOkSaid : Prop := fnPassesOkRow.holds Tryd.pinned (OpenSpec.ofChange fnPassesOkSpec)

/-- ITS FALSE NEIGHBOUR: 'it returns false'. Refute it at one input. -/
def fnPassesOkWrong : ChangeSpec := { name := "fnPassesOk", vars := ["loop.example/failingnets/impl.sideSteps"], fn := fun _ => fun
  | [d, g1] => { results := [.lit (.bool false)], args := [d], vars := [g1] }
  | _ => none }
def FnPassesOkWrongFalsely : Prop := fnPassesOkRow.holds Tryd.pinned (OpenSpec.ofChange fnPassesOkWrong)

/-- 'laws.FnCountLeads': WHATEVER THE INPUT: true; the input reads as it did. -/
def fnCountLeadsSpec : ChangeSpec := { name := "fnCountLeads", vars := ["loop.example/failingnets/impl.sideSteps"], fn := fun _ => fun
  | [d, g1] => { results := [.lit (.bool true)], args := [d], vars := [g1] }
  | _ => none }
def fnCountLeadsRow : OpenClaim := { program := "ytcmomghlepmogaadoor", sum := "024a0841c69ab9f4ec3666a30f192e62f74644a8ac599ce4dd22a5642f83e50b", func := "loop.example/failingnets/laws.FnCountLeads", spec := "fnCountLeads", unfollowed := true, recurses := true, named := ["loop.example/failingnets/impl.sideSteps", "math/bits.deBruijn32tab", "math/bits.deBruijn64tab"], apart := false, laid := [("math/bits.deBruijn32tab", laid_math_bits_deBruijn32tab), ("math/bits.deBruijn64tab", laid_math_bits_deBruijn64tab), ("loop.example/failingnets/impl.sideSteps", laid_loop_example_failingnets_impl_sideSteps)] }
def FnCountLeadsSaid : Prop := fnCountLeadsRow.holds Tryd.pinned (OpenSpec.ofChange fnCountLeadsSpec)

/-- ITS FALSE NEIGHBOUR: 'it returns false'. Refute it at one input. -/
def fnCountLeadsWrong : ChangeSpec := { name := "fnCountLeads", vars := ["loop.example/failingnets/impl.sideSteps"], fn := fun _ => fun
  | [d, g1] => { results := [.lit (.bool false)], args := [d], vars := [g1] }
  | _ => none }
def FnCountLeadsWrongFalsely : Prop := fnCountLeadsRow.holds Tryd.pinned (OpenSpec.ofChange fnCountLeadsWrong)

/-- 'laws.FnExactLeadsOk': WHATEVER THE INPUT: true; the input reads as it did. -/
def fnExactLeadsOkSpec : ChangeSpec := { name := "fnExactLeadsOk", vars := ["loop.example/failingnets/impl.sideSteps"], fn := fun _ => fun
  | [d1, d2, d3, g1] => { results := [.lit (.bool true)], args := [d1, d2, d3], vars := [g1] }
  | _ => none }
def fnExactLeadsOkRow : OpenClaim := { program := "ytcmomghlepmogaadoor", sum := "024a0841c69ab9f4ec3666a30f192e62f74644a8ac599ce4dd22a5642f83e50b", func := "loop.example/failingnets/laws.FnExactLeadsOk", spec := "fnExactLeadsOk", unfollowed := true, recurses := true, named := ["loop.example/failingnets/impl.sideSteps", "math/bits.deBruijn32tab", "math/bits.deBruijn64tab"], apart := false, laid := [("math/bits.deBruijn32tab", laid_math_bits_deBruijn32tab), ("math/bits.deBruijn64tab", laid_math_bits_deBruijn64tab), ("loop.example/failingnets/impl.sideSteps", laid_loop_example_failingnets_impl_sideSteps)] }
def FnExactLeadsOkSaid : Prop := fnExactLeadsOkRow.holds Tryd.pinned (OpenSpec.ofChange fnExactLeadsOkSpec)

/-- ITS FALSE NEIGHBOUR: 'it returns false'. Refute it at one input. -/
def fnExactLeadsOkWrong : ChangeSpec := { name := "fnExactLeadsOk", vars := ["loop.example/failingnets/impl.sideSteps"], fn := fun _ => fun
  | [d1, d2, d3, g1] => { results := [.lit (.bool false)], args := [d1, d2, d3], vars := [g1] }
  | _ => none }
def FnExactLeadsOkWrongFalsely : Prop := fnExactLeadsOkRow.holds Tryd.pinned (OpenSpec.ofChange fnExactLeadsOkWrong)

/-- 'laws.FnExactPassesOk': WHATEVER THE INPUT: true; the input reads as it did. -/
def fnExactPassesOkSpec : ChangeSpec := { name := "fnExactPassesOk", vars := ["loop.example/failingnets/impl.sideSteps"], fn := fun _ => fun
  | [d1, d2, d3, g1] => { results := [.lit (.bool true)], args := [d1, d2, d3], vars := [g1] }
  | _ => none }
def fnExactPassesOkRow : OpenClaim := { program := "ytcmomghlepmogaadoor", sum := "024a0841c69ab9f4ec3666a30f192e62f74644a8ac599ce4dd22a5642f83e50b", func := "loop.example/failingnets/laws.FnExactPassesOk", spec := "fnExactPassesOk", unfollowed := true, recurses := true, named := ["loop.example/failingnets/impl.sideSteps", "math/bits.deBruijn32tab", "math/bits.deBruijn64tab"], apart := false, laid := [("math/bits.deBruijn32tab", laid_math_bits_deBruijn32tab), ("math/bits.deBruijn64tab", laid_math_bits_deBruijn64tab), ("loop.example/failingnets/impl.sideSteps", laid_loop_example_failingnets_impl_sideSteps)] }
def FnExactPassesOkSaid : Prop := fnExactPassesOkRow.holds Tryd.pinned (OpenSpec.ofChange fnExactPassesOkSpec)

/-- ITS FALSE NEIGHBOUR: 'it returns false'. Refute it at one input. -/
def fnExactPassesOkWrong : ChangeSpec := { name := "fnExactPassesOk", vars := ["loop.example/failingnets/impl.sideSteps"], fn := fun _ => fun
  | [d1, d2, d3, g1] => { results := [.lit (.bool false)], args := [d1, d2, d3], vars := [g1] }
  | _ => none }
def FnExactPassesOkWrongFalsely : Prop := fnExactPassesOkRow.holds Tryd.pinned (OpenSpec.ofChange fnExactPassesOkWrong)

/-- 'laws.FnExactCountLeads': WHATEVER THE INPUT: true; the input reads as it did. -/
def fnExactCountLeadsSpec : ChangeSpec := { name := "fnExactCountLeads", vars := ["loop.example/failingnets/impl.sideSteps"], fn := fun _ => fun
  | [d1, d2, g1] => { results := [.lit (.bool true)], args := [d1, d2], vars := [g1] }
  | _ => none }
def fnExactCountLeadsRow : OpenClaim := { program := "ytcmomghlepmogaadoor", sum := "024a0841c69ab9f4ec3666a30f192e62f74644a8ac599ce4dd22a5642f83e50b", func := "loop.example/failingnets/laws.FnExactCountLeads", spec := "fnExactCountLeads", unfollowed := true, recurses := true, named := ["loop.example/failingnets/impl.sideSteps", "math/bits.deBruijn32tab", "math/bits.deBruijn64tab"], apart := false, laid := [("math/bits.deBruijn32tab", laid_math_bits_deBruijn32tab), ("math/bits.deBruijn64tab", laid_math_bits_deBruijn64tab), ("loop.example/failingnets/impl.sideSteps", laid_loop_example_failingnets_impl_sideSteps)] }
def FnExactCountLeadsSaid : Prop := fnExactCountLeadsRow.holds Tryd.pinned (OpenSpec.ofChange fnExactCountLeadsSpec)

/-- ITS FALSE NEIGHBOUR: 'it returns false'. Refute it at one input. -/
def fnExactCountLeadsWrong : ChangeSpec := { name := "fnExactCountLeads", vars := ["loop.example/failingnets/impl.sideSteps"], fn := fun _ => fun
  | [d1, d2, g1] => { results := [.lit (.bool false)], args := [d1, d2], vars := [g1] }
  | _ => none }
def FnExactCountLeadsWrongFalsely : Prop := fnExactCountLeadsRow.holds Tryd.pinned (OpenSpec.ofChange fnExactCountLeadsWrong)

/-- 'laws.FnCrossingRows': WHATEVER THE INPUT: true; the input reads as it did. -/
def fnCrossingRowsSpec : ChangeSpec := { name := "fnCrossingRows", vars := ["loop.example/failingnets/impl.touchSteps", "loop.example/failingnets/impl.sideSteps"], fn := fun _ => fun
  | [d, g1, g2] => { results := [.lit (.bool true)], args := [d], vars := [g1, g2] }
  | _ => none }
def fnCrossingRowsRow : OpenClaim := { program := "ytcmomghlepmogaadoor", sum := "024a0841c69ab9f4ec3666a30f192e62f74644a8ac599ce4dd22a5642f83e50b", func := "loop.example/failingnets/laws.FnCrossingRows", spec := "fnCrossingRows", unfollowed := true, recurses := true, named := ["loop.example/failingnets/impl.touchSteps", "math/bits.deBruijn32tab", "math/bits.deBruijn64tab", "loop.example/failingnets/impl.sideSteps"], apart := false, laid := [("math/bits.deBruijn32tab", laid_math_bits_deBruijn32tab), ("math/bits.deBruijn64tab", laid_math_bits_deBruijn64tab), ("loop.example/failingnets/impl.touchSteps", laid_loop_example_failingnets_impl_touchSteps), ("loop.example/failingnets/impl.sideSteps", laid_loop_example_failingnets_impl_sideSteps)] }
def FnCrossingRowsSaid : Prop := fnCrossingRowsRow.holds Tryd.pinned (OpenSpec.ofChange fnCrossingRowsSpec)

/-- ITS FALSE NEIGHBOUR: 'it returns false'. Refute it at one input. -/
def fnCrossingRowsWrong : ChangeSpec := { name := "fnCrossingRows", vars := ["loop.example/failingnets/impl.touchSteps", "loop.example/failingnets/impl.sideSteps"], fn := fun _ => fun
  | [d, g1, g2] => { results := [.lit (.bool false)], args := [d], vars := [g1, g2] }
  | _ => none }
def FnCrossingRowsWrongFalsely : Prop := fnCrossingRowsRow.holds Tryd.pinned (OpenSpec.ofChange fnCrossingRowsWrong)

/- THE SECOND FORM. 'bulk': how many values and letters a reading holds, each counted each time it is reached (what is shared counts as often as it is met; a slice's spare places count too). A statement '..UptoSaid' is the law's where the arguments, and the package variables that the reading takes, are together of bulk at most 1048576: NARROWER than '..Said'. Prove '..Said' where nothing that the law and all that it calls make is longer than what came in: it says more and counts as full. Else prove '..UptoSaid'. A law counts once. -/
mutual
def uptoBulk {H : Type} : DataW H → Nat
  | .lit (.string bytes) => bytes.length + 1
  | .lit _ => 1
  | .nil => 1
  | .ptr d => uptoBulk d + 1
  | .slice elems spare => uptoBulkAll elems + uptoBulkAll spare + 1
  | .agg parts => uptoBulkAll parts + 1
  | .iface _ d => uptoBulk d + 1
  | .map entries => uptoBulkEntries entries + 1
  | .held _ => 1
def uptoBulkAll {H : Type} : List (DataW H) → Nat
  | [] => 0
  | d :: r => uptoBulk d + uptoBulkAll r
def uptoBulkEntries {H : Type} : List (Lit × DataW H) → Nat
  | [] => 0
  | x :: r => uptoBulkEntry x + uptoBulkEntries r
def uptoBulkEntry {H : Type} : Lit × DataW H → Nat
  | (.string bytes, d) => bytes.length + uptoBulk d + 1
  | (_, d) => uptoBulk d + 1
 end
def uptoSmall : (H : Type) → List (DataW H) → Bool := fun _ ds => decide (uptoBulkAll ds ≤ 1048576)
def OpenSpec.upto (s : _root_.Go.ChangeSpec) : _root_.Go.OpenSpec := { _root_.Go.OpenSpec.ofChange s with cond := some uptoSmall }

/-- 'laws.FnLeadsOk', WHERE WHAT IT READS IS OF BULK AT MOST 1048576: true; the input reads as it did. -/
def fnLeadsOkUptoRow : OpenClaim := { program := "ytcmomghlepmogaadoor", sum := "024a0841c69ab9f4ec3666a30f192e62f74644a8ac599ce4dd22a5642f83e50b", func := "loop.example/failingnets/laws.FnLeadsOk", spec := "fnLeadsOk", unfollowed := true, recurses := true, named := ["loop.example/failingnets/impl.sideSteps", "math/bits.deBruijn32tab", "math/bits.deBruijn64tab"], apart := false, laid := [("math/bits.deBruijn32tab", laid_math_bits_deBruijn32tab), ("math/bits.deBruijn64tab", laid_math_bits_deBruijn64tab), ("loop.example/failingnets/impl.sideSteps", laid_loop_example_failingnets_impl_sideSteps)], narrowed := true }
def FnLeadsOkUptoSaid : Prop := fnLeadsOkUptoRow.holds Tryd.pinned (OpenSpec.upto fnLeadsOkSpec)

/-- 'laws.FnPassesOk', WHERE WHAT IT READS IS OF BULK AT MOST 1048576: true; the input reads as it did. -/
def fnPassesOkUptoRow : OpenClaim := { program := "ytcmomghlepmogaadoor", sum := "024a0841c69ab9f4ec3666a30f192e62f74644a8ac599ce4dd22a5642f83e50b", func := "loop.example/failingnets/laws.FnPassesOk", spec := "fnPassesOk", unfollowed := true, recurses := true, named := ["loop.example/failingnets/impl.sideSteps", "math/bits.deBruijn32tab", "math/bits.deBruijn64tab"], apart := false, laid := [("math/bits.deBruijn32tab", laid_math_bits_deBruijn32tab), ("math/bits.deBruijn64tab", laid_math_bits_deBruijn64tab), ("loop.example/failingnets/impl.sideSteps", laid_loop_example_failingnets_impl_sideSteps)], narrowed := true }
def FnPassesOkUptoSaid : Prop := fnPassesOkUptoRow.holds Tryd.pinned (OpenSpec.upto fnPassesOkSpec)

/-- 'laws.FnCountLeads', WHERE WHAT IT READS IS OF BULK AT MOST 1048576: true; the input reads as it did. -/
def fnCountLeadsUptoRow : OpenClaim := { program := "ytcmomghlepmogaadoor", sum := "024a0841c69ab9f4ec3666a30f192e62f74644a8ac599ce4dd22a5642f83e50b", func := "loop.example/failingnets/laws.FnCountLeads", spec := "fnCountLeads", unfollowed := true, recurses := true, named := ["loop.example/failingnets/impl.sideSteps", "math/bits.deBruijn32tab", "math/bits.deBruijn64tab"], apart := false, laid := [("math/bits.deBruijn32tab", laid_math_bits_deBruijn32tab), ("math/bits.deBruijn64tab", laid_math_bits_deBruijn64tab), ("loop.example/failingnets/impl.sideSteps", laid_loop_example_failingnets_impl_sideSteps)], narrowed := true }
def FnCountLeadsUptoSaid : Prop := fnCountLeadsUptoRow.holds Tryd.pinned (OpenSpec.upto fnCountLeadsSpec)

/-- 'laws.FnExactLeadsOk', WHERE WHAT IT READS IS OF BULK AT MOST 1048576: true; the input reads as it did. -/
def fnExactLeadsOkUptoRow : OpenClaim := { program := "ytcmomghlepmogaadoor", sum := "024a0841c69ab9f4ec3666a30f192e62f74644a8ac599ce4dd22a5642f83e50b", func := "loop.example/failingnets/laws.FnExactLeadsOk", spec := "fnExactLeadsOk", unfollowed := true, recurses := true, named := ["loop.example/failingnets/impl.sideSteps", "math/bits.deBruijn32tab", "math/bits.deBruijn64tab"], apart := false, laid := [("math/bits.deBruijn32tab", laid_math_bits_deBruijn32tab), ("math/bits.deBruijn64tab", laid_math_bits_deBruijn64tab), ("loop.example/failingnets/impl.sideSteps", laid_loop_example_failingnets_impl_sideSteps)], narrowed := true }
def FnExactLeadsOkUptoSaid : Prop := fnExactLeadsOkUptoRow.holds Tryd.pinned (OpenSpec.upto fnExactLeadsOkSpec)

/-- 'laws.FnExactPassesOk', WHERE WHAT IT READS IS OF BULK AT MOST 1048576: true; the input reads as it did. -/
def fnExactPassesOkUptoRow : OpenClaim := { program := "ytcmomghlepmogaadoor", sum := "024a0841c69ab9f4ec3666a30f192e62f74644a8ac599ce4dd22a5642f83e50b", func := "loop.example/failingnets/laws.FnExactPassesOk", spec := "fnExactPassesOk", unfollowed := true, recurses := true, named := ["loop.example/failingnets/impl.sideSteps", "math/bits.deBruijn32tab", "math/bits.deBruijn64tab"], apart := false, laid := [("math/bits.deBruijn32tab", laid_math_bits_deBruijn32tab), ("math/bits.deBruijn64tab", laid_math_bits_deBruijn64tab), ("loop.example/failingnets/impl.sideSteps", laid_loop_example_failingnets_impl_sideSteps)], narrowed := true }
def FnExactPassesOkUptoSaid : Prop := fnExactPassesOkUptoRow.holds Tryd.pinned (OpenSpec.upto fnExactPassesOkSpec)

/-- 'laws.FnExactCountLeads', WHERE WHAT IT READS IS OF BULK AT MOST 1048576: true; the input reads as it did. -/
def fnExactCountLeadsUptoRow : OpenClaim := { program := "ytcmomghlepmogaadoor", sum := "024a0841c69ab9f4ec3666a30f192e62f74644a8ac599ce4dd22a5642f83e50b", func := "loop.example/failingnets/laws.FnExactCountLeads", spec := "fnExactCountLeads", unfollowed := true, recurses := true, named := ["loop.example/failingnets/impl.sideSteps", "math/bits.deBruijn32tab", "math/bits.deBruijn64tab"], apart := false, laid := [("math/bits.deBruijn32tab", laid_math_bits_deBruijn32tab), ("math/bits.deBruijn64tab", laid_math_bits_deBruijn64tab), ("loop.example/failingnets/impl.sideSteps", laid_loop_example_failingnets_impl_sideSteps)], narrowed := true }
def FnExactCountLeadsUptoSaid : Prop := fnExactCountLeadsUptoRow.holds Tryd.pinned (OpenSpec.upto fnExactCountLeadsSpec)

/-- 'laws.FnCrossingRows', WHERE WHAT IT READS IS OF BULK AT MOST 1048576: true; the input reads as it did. -/
def fnCrossingRowsUptoRow : OpenClaim := { program := "ytcmomghlepmogaadoor", sum := "024a0841c69ab9f4ec3666a30f192e62f74644a8ac599ce4dd22a5642f83e50b", func := "loop.example/failingnets/laws.FnCrossingRows", spec := "fnCrossingRows", unfollowed := true, recurses := true, named := ["loop.example/failingnets/impl.touchSteps", "math/bits.deBruijn32tab", "math/bits.deBruijn64tab", "loop.example/failingnets/impl.sideSteps"], apart := false, laid := [("math/bits.deBruijn32tab", laid_math_bits_deBruijn32tab), ("math/bits.deBruijn64tab", laid_math_bits_deBruijn64tab), ("loop.example/failingnets/impl.touchSteps", laid_loop_example_failingnets_impl_touchSteps), ("loop.example/failingnets/impl.sideSteps", laid_loop_example_failingnets_impl_sideSteps)], narrowed := true }
def FnCrossingRowsUptoSaid : Prop := fnCrossingRowsUptoRow.holds Tryd.pinned (OpenSpec.upto fnCrossingRowsSpec)

end Rows
end Go.Proofs.YtcmomghlepmogaaDoor
