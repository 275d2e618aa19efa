/- StateOk, ThereOf, nodeOk and edgeAtOk of the program; StateOk and ThereOf of the reference. -/
import Derived.Test.YtlcgbmeneajfoaaNetOk
namespace Go.Proofs.Ytlcgbmeneajfoaa
open Go.RowKit
set_option maxRecDepth 100000

theorem boxB (w : World) (cs : Array Value) (t : TypeId) : Below w.heap.size w (w.alloc (.cells cs t)) := (Below.refl _ _).alloc (Nat.le_refl _) _
theorem boxE {w : World} {A : Option Addr} {es : List (Int × Int)} (h : EdgesIn w w.heap.size A es) (cs : Array Value) (t : TypeId) :
    EdgesIn (w.alloc (.cells cs t)) (w.alloc (.cells cs t)).heap.size A es := (h.alloc (Nat.le_refl _) _).more (by simp)
theorem boxEB {w w1 : World} {cs : Array Value} {t : TypeId} (h : Below (w.alloc (.cells cs t)).heap.size (w.alloc (.cells cs t)) w1) : Below w.heap.size w w1 := (boxB w cs t).trans (h.mono (by simp))

theorem stateOkB_lt {n s : Int} {es : List (Int × Int)} (h : stateOkB n es s = true) : 0 ≤ s ∧ s < 512 := by
  simp [stateOkB] at h
  have := pow_le es.length (netOkB_iff.1 h.1).2.1
  omega

end Go.Proofs.Ytlcgbmeneajfoaa

/- EdgesAt of the program and of the reference; nodeOk, edgeAtOk of the program. -/
namespace Go.Proofs.Ytlcgbmeneajfoaa
open Go.RowKit
set_option maxRecDepth 100000

def endB (v : Int) (e : Int × Int) : Bool := decide (e.1 = v) || decide (e.2 = v)
def nodeOkB (n : Int) (es : List (Int × Int)) (v : Int) : Bool := netOkB n es && (decide (1 ≤ v) && decide (v ≤ n))
def atOkB (n : Int) (es : List (Int × Int)) (k : Int) : Bool := netOkB n es && (decide (0 ≤ k) && decide (k < es.length))
def degI (n : Int) (es : List (Int × Int)) (v : Int) : Int := if nodeOkB n es v = true then (es.countP (endB v) : Nat) else -1
theorem countP_take_succ {α : Type} {l : List α} {k : Nat} (h : k < l.length) (p : α → Bool) : (l.take (k + 1)).countP p = (l.take k).countP p + (if p l[k] = true then 1 else 0) := by
  rw [List.take_succ_eq_append_getElem h, List.countP_append]; simp [List.countP_cons]
theorem countP_take_le {α : Type} {l : List α} {k : Nat} (p : α → Bool) : (l.take k).countP p ≤ k :=
  Nat.le_trans List.countP_le_length (List.length_take_le _ _)

end Go.Proofs.Ytlcgbmeneajfoaa
