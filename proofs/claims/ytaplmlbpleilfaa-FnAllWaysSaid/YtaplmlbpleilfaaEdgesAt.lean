/- EdgesAt of the program and of the reference; nodeOk, edgeAtOk of the program. -/
import Derived.Test.YtaplmlbpleilfaaState
namespace Go.Proofs.Ytaplmlbpleilfaa
open Go.RowKit
set_option maxRecDepth 100000

def endB (v : Int) (e : Int × Int) : Bool := decide (e.1 = v) || decide (e.2 = v)
def nodeOkB (n : Int) (es : List (Int × Int)) (v : Int) : Bool := netOkB n es && (decide (1 ≤ v) && decide (v ≤ n))
def atOkB (n : Int) (es : List (Int × Int)) (k : Int) : Bool := netOkB n es && (decide (0 ≤ k) && decide (k < es.length))
def degI (n : Int) (es : List (Int × Int)) (v : Int) : Int := if nodeOkB n es v = true then (es.countP (endB v) : Nat) else -1
theorem countP_take_succ {α : Type} {l : List α} {k : Nat} (h : k < l.length) (p : α → Bool) : (l.take (k + 1)).countP p = (l.take k).countP p + (if p l[k] = true then 1 else 0) := by
  rw [List.take_succ_eq_append_getElem h, List.countP_append]; simp [List.countP_cons]
theorem countP_take_le {α : Type} {l : List α} {k : Nat} (p : α → Bool) : (l.take k).countP p ≤ k :=
  Nat.le_trans List.countP_le_length (List.length_take_le _ _)

theorem nodeOk_any (n v : Int) (A : Option Addr) (cap : Nat) (es : List (Int × Int)) (w : World) (hes : EdgesIn w w.heap.size A es) (hl : es.length ≤ 1048576) :
    Calls Try.prog 75 #[.agg #[.int .i64 n, .slice A es.length cap], .int .i64 v] w fun e w' => e = .returned (.bool (nodeOkB n es v)) ∧ Below w.heap.size w w' := by
  have hes' := boxE hes #[.int .i64 n, .slice A es.length cap] 37
  by_cases hn : netOkB n es = true
  · have HN := Lib.hid hn
    clear hn
    go_enter Try.func75, Try.ntmps75
    go_wp2_with fail
    refine (netOk_any _ _ _ _ _ hes' hl).mono ?_
    rintro e1 w1 ⟨rfl, hb1⟩
    rw [HN.out]
    have hc := oldCell hb1; have hf := oldMark hb1
    go_wp2_with fail
    all_goals go_returns
    all_goals exact ⟨retB (by simp [nodeOkB, HN.out]; try omega), boxEB hb1⟩
  · have HN : Hid (netOkB n es = false) := by simpa [Hid] using hn
    clear hn
    go_enter Try.func75, Try.ntmps75
    go_wp2_with fail
    refine (netOk_any _ _ _ _ _ hes' hl).mono ?_
    rintro e1 w1 ⟨rfl, hb1⟩
    rw [HN.out]
    go_wp2_with fail
    go_returns
    exact ⟨retB (by simp [nodeOkB, HN.out]), boxEB hb1⟩

theorem edgeAtOk_any (n v : Int) (A : Option Addr) (cap : Nat) (es : List (Int × Int)) (w : World) (hes : EdgesIn w w.heap.size A es) (hl : es.length ≤ 1048576) :
    Calls Try.prog 55 #[.agg #[.int .i64 n, .slice A es.length cap], .int .i64 v] w fun e w' => e = .returned (.bool (atOkB n es v)) ∧ Below w.heap.size w w' := by
  have hes' := boxE hes #[.int .i64 n, .slice A es.length cap] 37
  by_cases hn : netOkB n es = true
  · have HN := Lib.hid hn
    clear hn
    go_enter Try.func55, Try.ntmps55
    go_wp2_with fail
    refine (netOk_any _ _ _ _ _ hes' hl).mono ?_
    rintro e1 w1 ⟨rfl, hb1⟩
    rw [HN.out]
    have hc := oldCell hb1; have hf := oldMark hb1
    go_wp2_with fail
    all_goals go_returns
    all_goals exact ⟨retB (by simp [atOkB, HN.out]; try omega), boxEB hb1⟩
  · have HN : Hid (netOkB n es = false) := by simpa [Hid] using hn
    clear hn
    go_enter Try.func55, Try.ntmps55
    go_wp2_with fail
    refine (netOk_any _ _ _ _ _ hes' hl).mono ?_
    rintro e1 w1 ⟨rfl, hb1⟩
    rw [HN.out]
    go_wp2_with fail
    go_returns
    exact ⟨retB (by simp [atOkB, HN.out]), boxEB hb1⟩

end Go.Proofs.Ytaplmlbpleilfaa
