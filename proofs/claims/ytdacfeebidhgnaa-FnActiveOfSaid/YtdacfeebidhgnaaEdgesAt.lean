/- StateOk, ThereOf, nodeOk and edgeAtOk of the program; StateOk and ThereOf of the reference. -/
import Derived.Test.YtdacfeebidhgnaaNetOk
namespace Go.Proofs.Ytdacfeebidhgnaa
open Go.RowKit
set_option maxRecDepth 100000

theorem boxB (w : World) (cs : Array Value) (t : TypeId) : Below w.heap.size w (w.alloc (.cells cs t)) := (Below.refl _ _).alloc (Nat.le_refl _) _
theorem boxE {w : World} {A : Option Addr} {es : List (Int × Int)} (h : EdgesIn w w.heap.size A es) (cs : Array Value) (t : TypeId) :
    EdgesIn (w.alloc (.cells cs t)) (w.alloc (.cells cs t)).heap.size A es := (h.alloc (Nat.le_refl _) _).more (by simp)
theorem boxEB {w w1 : World} {cs : Array Value} {t : TypeId} (h : Below (w.alloc (.cells cs t)).heap.size (w.alloc (.cells cs t)) w1) : Below w.heap.size w w1 := (boxB w cs t).trans (h.mono (by simp))

theorem stateCount_any (n : Int) (A : Option Addr) (cap : Nat) (es : List (Int × Int)) (w : World) (hl : es.length ≤ 9) :
    Calls Try.prog 82 #[.agg #[.int .i64 n, .slice A es.length cap]] w fun e w' => e = .returned (.int .i64 ((2 ^ es.length : Nat) : Int)) ∧ Below w.heap.size w w' := by
  have hp : wrap64 (2 ^ es.length) = ((2 ^ es.length : Nat) : Int) := by
    have h2 : 2 ^ es.length ≤ 2 ^ 9 := Nat.pow_le_pow_right (by omega) hl
    have e : (2 : Int) ^ es.length = ((2 ^ es.length : Nat) : Int) := by rw [Int.natCast_pow]; rfl
    obtain ⟨P, hP⟩ : ∃ P, 2 ^ es.length = P := ⟨_, rfl⟩
    rw [e, hP]
    rw [hP] at h2
    unfold wrap64
    omega
  go_enter Try.func82, Try.ntmps82
  go_wp2_with fail
  go_returns
  exact ⟨retI hp, boxB _ _ _⟩

theorem stateOk_any (n s : Int) (A : Option Addr) (cap : Nat) (es : List (Int × Int)) (w : World) (hes : EdgesIn w w.heap.size A es) (hl : es.length ≤ 1048576) :
    Calls Try.prog 110 #[.agg #[.int .i64 n, .slice A es.length cap], .int .i64 s] w fun e w' => e = .returned (.bool (stateOkB n es s)) ∧ Below w.heap.size w w' := by
  have hes' := boxE hes #[.int .i64 n, .slice A es.length cap] 29
  by_cases hn : netOkB n es = true
  · have h9 := (netOkB_iff.1 hn).2.1
    have hp := pow_le es.length h9
    have HN := Lib.hid hn
    clear hn
    by_cases h0 : 0 ≤ s
    · go_enter Try.func110, Try.ntmps110
      go_wp2_with fail
      refine (netOk_any _ _ _ _ _ hes' hl).mono ?_
      rintro e1 w1 ⟨rfl, hb1⟩
      rw [HN.out]
      have hc := oldCell hb1; have hf := oldMark hb1
      go_wp2_with fail
      refine (stateCount_any _ _ _ _ _ h9).mono ?_
      rintro e2 w2 ⟨rfl, hb2⟩
      go_wp2_with fail
      go_returns
      refine ⟨?_, boxEB (hb1.trans (hb2.mono hb1.size))⟩
      simp [stateOkB, HN.out, h0]
    · go_enter Try.func110, Try.ntmps110
      go_wp2_with fail
      refine (netOk_any _ _ _ _ _ hes' hl).mono ?_
      rintro e1 w1 ⟨rfl, hb1⟩
      rw [HN.out]
      have hc := oldCell hb1; have hf := oldMark hb1
      go_wp2_with fail
      go_returns
      exact ⟨by simp [stateOkB, HN.out]; omega, boxEB hb1⟩
  · have HN : Hid (netOkB n es = false) := by simpa [Hid] using hn
    clear hn
    go_enter Try.func110, Try.ntmps110
    go_wp2_with fail
    refine (netOk_any _ _ _ _ _ hes' hl).mono ?_
    rintro e1 w1 ⟨rfl, hb1⟩
    rw [HN.out]
    go_wp2_with fail
    go_returns
    exact ⟨by simp [stateOkB, HN.out], boxEB hb1⟩

theorem specStateOk_any (n s : Int) (A : Option Addr) (cap : Nat) (es : List (Int × Int)) (w : World) (hes : EdgesIn w w.heap.size A es) (hl : es.length ≤ 1048576) :
    Calls Try.prog 73 #[.agg #[.int .i64 n, .slice A es.length cap], .int .i64 s] w fun e w' => e = .returned (.bool (stateOkB n es s)) ∧ Below w.heap.size w w' := by
  have hes' := boxE hes #[.int .i64 n, .slice A es.length cap] 29
  by_cases hn : netOkB n es = true
  · have h9 := (netOkB_iff.1 hn).2.1
    have hp := pow_le es.length h9
    have HN := Lib.hid hn
    clear hn
    go_enter Try.func73, Try.ntmps73
    go_wp2_with fail
    refine (specNetOk_any _ _ _ _ _ hes' hl).mono ?_
    rintro e1 w1 ⟨rfl, hb1⟩
    rw [HN.out]
    have hc := oldCell hb1; have hf := oldMark hb1
    go_wp2_with fail
    refine (l1In_any _ _ _ _).mono ?_
    rintro e2 w2 ⟨rfl, rfl⟩
    go_wp2_with fail
    all_goals go_returns
    all_goals refine ⟨?_, boxEB hb1⟩
    all_goals (refine retB ?_; rw [Bool.eq_iff_iff]; simp [stateOkB, HN.out]; omega)
  · have HN : Hid (netOkB n es = false) := by simpa [Hid] using hn
    clear hn
    go_enter Try.func73, Try.ntmps73
    go_wp2_with fail
    refine (specNetOk_any _ _ _ _ _ hes' hl).mono ?_
    rintro e1 w1 ⟨rfl, hb1⟩
    rw [HN.out]
    go_wp2_with fail
    go_returns
    exact ⟨by simp [stateOkB, HN.out], boxEB hb1⟩

theorem l1Many_any (s : Nat) (w : World) (hs : s < 9223372036854775808) :
    Calls Try.prog 67 #[.int .i64 s] w fun e w' => e = .returned (.int .i64 (pop s)) ∧ w = w' := by
  go_enter Try.func67, Try.ntmps67
  go_wp2
  go_loop [0, 3] (fun t c => ∃ k m : Nat, k < 9223372036854775808 ∧ m ≤ 64 ∧ Hid (m + pop k = pop s) ∧ t = .int .i64 k ∧ c = .int .i64 m) (fun t _ => (intOf t).toNat)
  case atStart => exact ⟨s, 0, hs, by omega, by simp [Hid], rfl, rfl⟩
  case round =>
    obtain ⟨k, m, hk, hm, hp, rfl, rfl⟩ := hrel
    by_cases h0 : 0 < k
    · have hst := Lib.hid (pop_step k (by omega))
      have hle := pop_le s
      have hm' : m + k % 2 ≤ 64 := by have := hst.out; have := hp.out; omega
      go_wp2
      go_round
      case rel => exact ⟨k / 2, m + k % 2, by omega, hm', by have := hst.out; have := hp.out; unfold Hid; omega, by go_num, by go_num⟩
      case measure => simp [intOf]; omega
    · obtain rfl : k = 0 := by omega
      go_wp2
      go_ret
      have := hp.out
      rw [pop_zero] at this
      exact ⟨by simp [← this], rfl⟩

theorem stateOkB_lt {n s : Int} {es : List (Int × Int)} (h : stateOkB n es s = true) : 0 ≤ s ∧ s < 512 := by
  simp [stateOkB] at h
  have := pow_le es.length (netOkB_iff.1 h.1).2.1
  omega

/-- The masks of OnesCount64, over numbers below 512. -/
theorem size_any (s : Nat) (w : World) (hs : s < 512) :
    Calls Try.prog 78 #[.int .u64 s] w fun e w' => e = .returned (.int .i64 (pop s)) ∧ w = w' := by
  go_enter Try.func78, Try.ntmps78
  go_wp2
  go_returns
  refine ⟨retI ?_, rfl⟩
  rename_i htrue
  clear htrue w
  revert s
  decide +kernel

theorem thereOf_any (n s : Int) (A : Option Addr) (cap : Nat) (es : List (Int × Int)) (w : World) (hes : EdgesIn w w.heap.size A es) (hl : es.length ≤ 1048576) :
    Calls Try.prog 86 #[.agg #[.int .i64 n, .slice A es.length cap], .int .i64 s] w fun e w' => e = .returned (.int .i64 (thereI n es s)) ∧ Below w.heap.size w w' := by
  have hes' := boxE hes #[.int .i64 n, .slice A es.length cap] 29
  by_cases hn : stateOkB n es s = true
  · have h9 := stateOkB_lt hn
    obtain ⟨k, rfl, hk⟩ : ∃ k : Nat, s = k ∧ k < 512 := ⟨s.toNat, by omega, by omega⟩
    have HN := Lib.hid hn
    clear hn h9
    go_enter Try.func86, Try.ntmps86
    go_wp2_with fail
    refine (stateOk_any _ _ _ _ _ _ hes' hl).mono ?_
    rintro e1 w1 ⟨rfl, hb1⟩
    rw [HN.out]
    go_wp2_with fail
    refine (size_any _ _ hk).mono ?_
    rintro e2 w2 ⟨rfl, rfl⟩
    go_wp2_with fail
    go_returns
    exact ⟨retI (by simp [thereI, HN.out]), boxEB hb1⟩
  · have HN : Hid (stateOkB n es s = false) := by simpa [Hid] using hn
    clear hn
    go_enter Try.func86, Try.ntmps86
    go_wp2_with fail
    refine (stateOk_any _ _ _ _ _ _ hes' hl).mono ?_
    rintro e1 w1 ⟨rfl, hb1⟩
    rw [HN.out]
    go_wp2_with fail
    go_returns
    exact ⟨retI (by simp [thereI, HN.out]), boxEB hb1⟩

end Go.Proofs.Ytdacfeebidhgnaa

/- EdgesAt of the program and of the reference; nodeOk, edgeAtOk of the program. -/
namespace Go.Proofs.Ytdacfeebidhgnaa
open Go.RowKit
set_option maxRecDepth 100000

def endB (v : Int) (e : Int × Int) : Bool := decide (e.1 = v) || decide (e.2 = v)
def nodeOkB (n : Int) (es : List (Int × Int)) (v : Int) : Bool := netOkB n es && (decide (1 ≤ v) && decide (v ≤ n))
def atOkB (n : Int) (es : List (Int × Int)) (k : Int) : Bool := netOkB n es && (decide (0 ≤ k) && decide (k < es.length))
def degI (n : Int) (es : List (Int × Int)) (v : Int) : Int := if nodeOkB n es v = true then (es.countP (endB v) : Nat) else -1
theorem countP_take_succ {α : Type} {l : List α} {k : Nat} (h : k < l.length) (p : α → Bool) : (l.take (k + 1)).countP p = (l.take k).countP p + (if p l[k] = true then 1 else 0) := by
  rw [List.take_succ_eq_append_getElem h, List.countP_append]; simp [List.countP_cons]
theorem countP_take_le {α : Type} {l : List α} {k : Nat} (p : α → Bool) : (l.take k).countP p ≤ k :=
  Nat.le_trans List.countP_le_length (List.length_take_le _ _)

theorem edgeAtOk_any (n v : Int) (A : Option Addr) (cap : Nat) (es : List (Int × Int)) (w : World) (hes : EdgesIn w w.heap.size A es) (hl : es.length ≤ 1048576) :
    Calls Try.prog 97 #[.agg #[.int .i64 n, .slice A es.length cap], .int .i64 v] w fun e w' => e = .returned (.bool (atOkB n es v)) ∧ Below w.heap.size w w' := by
  have hes' := boxE hes #[.int .i64 n, .slice A es.length cap] 29
  by_cases hn : netOkB n es = true
  · have HN := Lib.hid hn
    clear hn
    go_enter Try.func97, Try.ntmps97
    go_wp2_with fail
    refine (netOk_any _ _ _ _ _ hes' hl).mono ?_
    rintro e1 w1 ⟨rfl, hb1⟩
    rw [HN.out]
    have hc := oldCell hb1; have hf := oldMark hb1
    go_wp2_with fail
    all_goals go_returns
    all_goals exact ⟨retB (by simp [atOkB, HN.out]; try omega), boxEB hb1⟩
  · have HN : Hid (netOkB n es = false) := by simpa [Hid] using hn
    clear hn
    go_enter Try.func97, Try.ntmps97
    go_wp2_with fail
    refine (netOk_any _ _ _ _ _ hes' hl).mono ?_
    rintro e1 w1 ⟨rfl, hb1⟩
    rw [HN.out]
    go_wp2_with fail
    go_returns
    exact ⟨retB (by simp [atOkB, HN.out]), boxEB hb1⟩

end Go.Proofs.Ytdacfeebidhgnaa
