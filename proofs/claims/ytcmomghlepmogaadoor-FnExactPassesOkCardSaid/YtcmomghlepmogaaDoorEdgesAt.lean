/- StateOk, ThereOf, nodeOk and edgeAtOk of the program; StateOk and ThereOf of the reference. -/
import Derived.Test.YtcmomghlepmogaaDoorNetOk
namespace Go.Proofs.YtcmomghlepmogaaDoor
open Go.RowKit
set_option maxRecDepth 100000

theorem boxB (w : World) (cs : Array Value) (t : TypeId) : Below w.heap.size w (w.alloc (.cells cs t)) := (Below.refl _ _).alloc (Nat.le_refl _) _
theorem boxE {w : World} {A : Option Addr} {es : List (Int × Int)} (h : EdgesIn w w.heap.size A es) (cs : Array Value) (t : TypeId) :
    EdgesIn (w.alloc (.cells cs t)) (w.alloc (.cells cs t)).heap.size A es := (h.alloc (Nat.le_refl _) _).more (by simp)
theorem boxEB {w w1 : World} {cs : Array Value} {t : TypeId} (h : Below (w.alloc (.cells cs t)).heap.size (w.alloc (.cells cs t)) w1) : Below w.heap.size w w1 := (boxB w cs t).trans (h.mono (by simp))

theorem l1Many_any (s : Nat) (w : World) (hs : s < 9223372036854775808) :
    Calls Tryd.prog 49 #[.int .i64 s] w fun e w' => e = .returned (.int .i64 (pop s)) ∧ w = w' := by
  go_enter Tryd.func49, Tryd.ntmps49
  go_wp2
  go_loop [0, 3] (fun t c => ∃ k m : Nat, k < 9223372036854775808 ∧ m ≤ 64 ∧ Hid (m + pop k = pop s) ∧ t = .int .i64 k ∧ c = .int .i64 m) (fun t _ => (intOf t).toNat)
  case atStart => exact ⟨s, 0, hs, by omega, by simp [Hid], rfl, rfl⟩
  case round =>
    obtain ⟨k, m, hk, hm, hp, rfl, rfl⟩ := hrel
    by_cases h0 : 0 < k
    · have hst := Lib.hid (pop_step k (by omega))
      have hle := pop_le s
      have hm' : m + k % 2 ≤ 64 := by have := hst.out; have := hp.out; omega
      go_wp2
      go_round
      case rel => exact ⟨k / 2, m + k % 2, by omega, hm', by have := hst.out; have := hp.out; unfold Hid; omega, by go_num, by go_num⟩
      case measure => simp [intOf]; omega
    · obtain rfl : k = 0 := by omega
      go_wp2
      go_ret
      have := hp.out
      rw [pop_zero] at this
      exact ⟨by simp [← this], rfl⟩

theorem stateOkB_lt {n s : Int} {es : List (Int × Int)} (h : stateOkB n es s = true) : 0 ≤ s ∧ s < 512 := by
  simp [stateOkB] at h
  have := pow_le es.length (netOkB_iff.1 h.1).2.1
  omega

/-- The masks of OnesCount64, over numbers below 512. -/
theorem size_any (s : Nat) (w : World) (hs : s < 512) :
    Calls Tryd.prog 64 #[.int .u64 s] w fun e w' => e = .returned (.int .i64 (pop s)) ∧ w = w' := by
  go_enter Tryd.func64, Tryd.ntmps64
  go_wp2
  go_returns
  refine ⟨retI ?_, rfl⟩
  rename_i htrue
  clear htrue w
  revert s
  decide +kernel

end Go.Proofs.YtcmomghlepmogaaDoor

/- EdgesAt of the program and of the reference; nodeOk, edgeAtOk of the program. -/
namespace Go.Proofs.YtcmomghlepmogaaDoor
open Go.RowKit
set_option maxRecDepth 100000

def endB (v : Int) (e : Int × Int) : Bool := decide (e.1 = v) || decide (e.2 = v)
def nodeOkB (n : Int) (es : List (Int × Int)) (v : Int) : Bool := netOkB n es && (decide (1 ≤ v) && decide (v ≤ n))
def atOkB (n : Int) (es : List (Int × Int)) (k : Int) : Bool := netOkB n es && (decide (0 ≤ k) && decide (k < es.length))
def degI (n : Int) (es : List (Int × Int)) (v : Int) : Int := if nodeOkB n es v = true then (es.countP (endB v) : Nat) else -1
theorem countP_take_succ {α : Type} {l : List α} {k : Nat} (h : k < l.length) (p : α → Bool) : (l.take (k + 1)).countP p = (l.take k).countP p + (if p l[k] = true then 1 else 0) := by
  rw [List.take_succ_eq_append_getElem h, List.countP_append]; simp [List.countP_cons]
theorem countP_take_le {α : Type} {l : List α} {k : Nat} (p : α → Bool) : (l.take k).countP p ≤ k :=
  Nat.le_trans List.countP_le_length (List.length_take_le _ _)

end Go.Proofs.YtcmomghlepmogaaDoor
