/- StateOk, ThereOf, nodeOk and edgeAtOk of the program; StateOk and ThereOf of the reference. -/
import Derived.Test.YtdacfeebidhgnabNetOk
namespace Go.Proofs.Ytdacfeebidhgnab
open Go.RowKit
set_option maxRecDepth 100000

theorem boxB (w : World) (cs : Array Value) (t : TypeId) : Below w.heap.size w (w.alloc (.cells cs t)) := (Below.refl _ _).alloc (Nat.le_refl _) _
theorem boxE {w : World} {A : Option Addr} {es : List (Int × Int)} (h : EdgesIn w w.heap.size A es) (cs : Array Value) (t : TypeId) :
    EdgesIn (w.alloc (.cells cs t)) (w.alloc (.cells cs t)).heap.size A es := (h.alloc (Nat.le_refl _) _).more (by simp)
theorem boxEB {w w1 : World} {cs : Array Value} {t : TypeId} (h : Below (w.alloc (.cells cs t)).heap.size (w.alloc (.cells cs t)) w1) : Below w.heap.size w w1 := (boxB w cs t).trans (h.mono (by simp))

theorem stateCount_any (n : Int) (A : Option Addr) (cap : Nat) (es : List (Int × Int)) (w : World) (hl : es.length ≤ 9) :
    Calls Try.prog 64 #[.agg #[.int .i64 n, .slice A es.length cap]] w fun e w' => e = .returned (.int .i64 ((2 ^ es.length : Nat) : Int)) ∧ Below w.heap.size w w' := by
  have hp : wrap64 (2 ^ es.length) = ((2 ^ es.length : Nat) : Int) := by
    have h2 : 2 ^ es.length ≤ 2 ^ 9 := Nat.pow_le_pow_right (by omega) hl
    have e : (2 : Int) ^ es.length = ((2 ^ es.length : Nat) : Int) := by rw [Int.natCast_pow]; rfl
    obtain ⟨P, hP⟩ : ∃ P, 2 ^ es.length = P := ⟨_, rfl⟩
    rw [e, hP]
    rw [hP] at h2
    unfold wrap64
    omega
  go_enter Try.func64, Try.ntmps64
  go_wp2_with fail
  go_returns
  exact ⟨retI hp, boxB _ _ _⟩

theorem stateOk_any (n s : Int) (A : Option Addr) (cap : Nat) (es : List (Int × Int)) (w : World) (hes : EdgesIn w w.heap.size A es) (hl : es.length ≤ 1048576) :
    Calls Try.prog 95 #[.agg #[.int .i64 n, .slice A es.length cap], .int .i64 s] w fun e w' => e = .returned (.bool (stateOkB n es s)) ∧ Below w.heap.size w w' := by
  have hes' := boxE hes #[.int .i64 n, .slice A es.length cap] 25
  by_cases hn : netOkB n es = true
  · have h9 := (netOkB_iff.1 hn).2.1
    have hp := pow_le es.length h9
    have HN := Lib.hid hn
    clear hn
    by_cases h0 : 0 ≤ s
    · go_enter Try.func95, Try.ntmps95
      go_wp2_with fail
      refine (netOk_any _ _ _ _ _ hes' hl).mono ?_
      rintro e1 w1 ⟨rfl, hb1⟩
      rw [HN.out]
      have hc := oldCell hb1; have hf := oldMark hb1
      go_wp2_with fail
      refine (stateCount_any _ _ _ _ _ h9).mono ?_
      rintro e2 w2 ⟨rfl, hb2⟩
      go_wp2_with fail
      go_returns
      refine ⟨?_, boxEB (hb1.trans (hb2.mono hb1.size))⟩
      simp [stateOkB, HN.out, h0]
    · go_enter Try.func95, Try.ntmps95
      go_wp2_with fail
      refine (netOk_any _ _ _ _ _ hes' hl).mono ?_
      rintro e1 w1 ⟨rfl, hb1⟩
      rw [HN.out]
      have hc := oldCell hb1; have hf := oldMark hb1
      go_wp2_with fail
      go_returns
      exact ⟨by simp [stateOkB, HN.out]; omega, boxEB hb1⟩
  · have HN : Hid (netOkB n es = false) := by simpa [Hid] using hn
    clear hn
    go_enter Try.func95, Try.ntmps95
    go_wp2_with fail
    refine (netOk_any _ _ _ _ _ hes' hl).mono ?_
    rintro e1 w1 ⟨rfl, hb1⟩
    rw [HN.out]
    go_wp2_with fail
    go_returns
    exact ⟨by simp [stateOkB, HN.out], boxEB hb1⟩

theorem specStateOk_any (n s : Int) (A : Option Addr) (cap : Nat) (es : List (Int × Int)) (w : World) (hes : EdgesIn w w.heap.size A es) (hl : es.length ≤ 1048576) :
    Calls Try.prog 135 #[.agg #[.int .i64 n, .slice A es.length cap], .int .i64 s] w fun e w' => e = .returned (.bool (stateOkB n es s)) ∧ Below w.heap.size w w' := by
  have hes' := boxE hes #[.int .i64 n, .slice A es.length cap] 25
  by_cases hn : netOkB n es = true
  · have h9 := (netOkB_iff.1 hn).2.1
    have hp := pow_le es.length h9
    have HN := Lib.hid hn
    clear hn
    go_enter Try.func135, Try.ntmps135
    go_wp2_with fail
    refine (specNetOk_any _ _ _ _ _ hes' hl).mono ?_
    rintro e1 w1 ⟨rfl, hb1⟩
    rw [HN.out]
    have hc := oldCell hb1; have hf := oldMark hb1
    go_wp2_with fail
    refine (l1In_any _ _ _ _).mono ?_
    rintro e2 w2 ⟨rfl, rfl⟩
    go_wp2_with fail
    all_goals go_returns
    all_goals refine ⟨?_, boxEB hb1⟩
    all_goals (refine retB ?_; rw [Bool.eq_iff_iff]; simp [stateOkB, HN.out]; omega)
  · have HN : Hid (netOkB n es = false) := by simpa [Hid] using hn
    clear hn
    go_enter Try.func135, Try.ntmps135
    go_wp2_with fail
    refine (specNetOk_any _ _ _ _ _ hes' hl).mono ?_
    rintro e1 w1 ⟨rfl, hb1⟩
    rw [HN.out]
    go_wp2_with fail
    go_returns
    exact ⟨by simp [stateOkB, HN.out], boxEB hb1⟩

theorem l1Many_any (s : Nat) (w : World) (hs : s < 9223372036854775808) :
    Calls Try.prog 72 #[.int .i64 s] w fun e w' => e = .returned (.int .i64 (pop s)) ∧ w = w' := by
  go_enter Try.func72, Try.ntmps72
  go_wp2
  go_loop [0, 3] (fun t c => ∃ k m : Nat, k < 9223372036854775808 ∧ m ≤ 64 ∧ Hid (m + pop k = pop s) ∧ t = .int .i64 k ∧ c = .int .i64 m) (fun t _ => (intOf t).toNat)
  case atStart => exact ⟨s, 0, hs, by omega, by simp [Hid], rfl, rfl⟩
  case round =>
    obtain ⟨k, m, hk, hm, hp, rfl, rfl⟩ := hrel
    by_cases h0 : 0 < k
    · have hst := Lib.hid (pop_step k (by omega))
      have hle := pop_le s
      have hm' : m + k % 2 ≤ 64 := by have := hst.out; have := hp.out; omega
      go_wp2
      go_round
      case rel => exact ⟨k / 2, m + k % 2, by omega, hm', by have := hst.out; have := hp.out; unfold Hid; omega, by go_num, by go_num⟩
      case measure => simp [intOf]; omega
    · obtain rfl : k = 0 := by omega
      go_wp2
      go_ret
      have := hp.out
      rw [pop_zero] at this
      exact ⟨by simp [← this], rfl⟩

theorem stateOkB_lt {n s : Int} {es : List (Int × Int)} (h : stateOkB n es s = true) : 0 ≤ s ∧ s < 512 := by
  simp [stateOkB] at h
  have := pow_le es.length (netOkB_iff.1 h.1).2.1
  omega

/-- The masks of OnesCount64, over numbers below 512. -/
theorem size_any (s : Nat) (w : World) (hs : s < 512) :
    Calls Try.prog 126 #[.int .u64 s] w fun e w' => e = .returned (.int .i64 (pop s)) ∧ w = w' := by
  go_enter Try.func126, Try.ntmps126
  go_wp2
  go_returns
  refine ⟨retI ?_, rfl⟩
  rename_i htrue
  clear htrue w
  revert s
  decide +kernel

theorem thereOf_any (n s : Int) (A : Option Addr) (cap : Nat) (es : List (Int × Int)) (w : World) (hes : EdgesIn w w.heap.size A es) (hl : es.length ≤ 1048576) :
    Calls Try.prog 68 #[.agg #[.int .i64 n, .slice A es.length cap], .int .i64 s] w fun e w' => e = .returned (.int .i64 (thereI n es s)) ∧ Below w.heap.size w w' := by
  have hes' := boxE hes #[.int .i64 n, .slice A es.length cap] 25
  by_cases hn : stateOkB n es s = true
  · have h9 := stateOkB_lt hn
    obtain ⟨k, rfl, hk⟩ : ∃ k : Nat, s = k ∧ k < 512 := ⟨s.toNat, by omega, by omega⟩
    have HN := Lib.hid hn
    clear hn h9
    go_enter Try.func68, Try.ntmps68
    go_wp2_with fail
    refine (stateOk_any _ _ _ _ _ _ hes' hl).mono ?_
    rintro e1 w1 ⟨rfl, hb1⟩
    rw [HN.out]
    go_wp2_with fail
    refine (size_any _ _ hk).mono ?_
    rintro e2 w2 ⟨rfl, rfl⟩
    go_wp2_with fail
    go_returns
    exact ⟨retI (by simp [thereI, HN.out]), boxEB hb1⟩
  · have HN : Hid (stateOkB n es s = false) := by simpa [Hid] using hn
    clear hn
    go_enter Try.func68, Try.ntmps68
    go_wp2_with fail
    refine (stateOk_any _ _ _ _ _ _ hes' hl).mono ?_
    rintro e1 w1 ⟨rfl, hb1⟩
    rw [HN.out]
    go_wp2_with fail
    go_returns
    exact ⟨retI (by simp [thereI, HN.out]), boxEB hb1⟩

end Go.Proofs.Ytdacfeebidhgnab

/- EdgesAt of the program and of the reference; nodeOk, edgeAtOk of the program. -/
namespace Go.Proofs.Ytdacfeebidhgnab
open Go.RowKit
set_option maxRecDepth 100000

def endB (v : Int) (e : Int × Int) : Bool := decide (e.1 = v) || decide (e.2 = v)
def nodeOkB (n : Int) (es : List (Int × Int)) (v : Int) : Bool := netOkB n es && (decide (1 ≤ v) && decide (v ≤ n))
def atOkB (n : Int) (es : List (Int × Int)) (k : Int) : Bool := netOkB n es && (decide (0 ≤ k) && decide (k < es.length))
def degI (n : Int) (es : List (Int × Int)) (v : Int) : Int := if nodeOkB n es v = true then (es.countP (endB v) : Nat) else -1
theorem countP_take_succ {α : Type} {l : List α} {k : Nat} (h : k < l.length) (p : α → Bool) : (l.take (k + 1)).countP p = (l.take k).countP p + (if p l[k] = true then 1 else 0) := by
  rw [List.take_succ_eq_append_getElem h, List.countP_append]; simp [List.countP_cons]
theorem countP_take_le {α : Type} {l : List α} {k : Nat} (p : α → Bool) : (l.take k).countP p ≤ k :=
  Nat.le_trans List.countP_le_length (List.length_take_le _ _)

theorem endsAt_any (a b v : Int) (w : World) :
    Calls Try.prog 157 #[.agg #[.int .i64 a, .int .i64 b], .int .i64 v] w fun e w' => e = .returned (.bool (endB v (a, b))) ∧ Below w.heap.size w w' := by
  by_cases h1 : a = v <;> by_cases h2 : b = v <;>
  · have H1 := Lib.hid h1
    have H2 := Lib.hid h2
    have q1 : (a == v) = decide (a = v) := by simp [h1]
    have q2 : (b == v) = decide (b = v) := by simp [h2]
    simp only [h1, h2, decide_true, decide_false] at q1 q2
    clear h1 h2
    go_enter Try.func157, Try.ntmps157
    go_wp2
    go_returns
    exact ⟨by simp [endB, H1.out, H2.out], by go_grown⟩

theorem nodeOk_any (n v : Int) (A : Option Addr) (cap : Nat) (es : List (Int × Int)) (w : World) (hes : EdgesIn w w.heap.size A es) (hl : es.length ≤ 1048576) :
    Calls Try.prog 156 #[.agg #[.int .i64 n, .slice A es.length cap], .int .i64 v] w fun e w' => e = .returned (.bool (nodeOkB n es v)) ∧ Below w.heap.size w w' := by
  have hes' := boxE hes #[.int .i64 n, .slice A es.length cap] 25
  by_cases hn : netOkB n es = true
  · have HN := Lib.hid hn
    clear hn
    go_enter Try.func156, Try.ntmps156
    go_wp2_with fail
    refine (netOk_any _ _ _ _ _ hes' hl).mono ?_
    rintro e1 w1 ⟨rfl, hb1⟩
    rw [HN.out]
    have hc := oldCell hb1; have hf := oldMark hb1
    go_wp2_with fail
    all_goals go_returns
    all_goals exact ⟨retB (by simp [nodeOkB, HN.out]; try omega), boxEB hb1⟩
  · have HN : Hid (netOkB n es = false) := by simpa [Hid] using hn
    clear hn
    go_enter Try.func156, Try.ntmps156
    go_wp2_with fail
    refine (netOk_any _ _ _ _ _ hes' hl).mono ?_
    rintro e1 w1 ⟨rfl, hb1⟩
    rw [HN.out]
    go_wp2_with fail
    go_returns
    exact ⟨retB (by simp [nodeOkB, HN.out]), boxEB hb1⟩

theorem edgesAt_any (n v : Int) (A : Option Addr) (cap : Nat) (es : List (Int × Int)) (w : World) (hes : EdgesIn w w.heap.size A es) (hl : es.length ≤ 1048576) :
    Calls Try.prog 145 #[.agg #[.int .i64 n, .slice A es.length cap], .int .i64 v] w fun e w' => e = .returned (.int .i64 (degI n es v)) ∧ Below w.heap.size w w' := by
  have hes' := boxE hes #[.int .i64 n, .slice A es.length cap] 25
  by_cases hn : nodeOkB n es v = true
  · have HN := Lib.hid hn
    clear hn
    go_enter Try.func145, Try.ntmps145
    go_wp2_with fail
    refine (nodeOk_any _ _ _ _ _ _ hes' hl).mono ?_
    rintro e1 w1 ⟨rfl, hb1⟩
    rw [HN.out]
    have hc := oldCell hb1; have hf := oldMark hb1
    have L := (ArgNet.start (cap := cap) (n := n) 25 hes).step hb1 (by simp)
    clear hes hes'
    go_wp2_with fail
    clear hc hf
    go_loopw [5, 15] (fun c i wr => ∃ k : Nat, k ≤ es.length ∧ i = .int .i64 k ∧ c = .int .i64 ((es.take k).countP (endB v) : Nat) ∧ ArgNet w wr n A cap es) (fun _ i _ => es.length - (intOf i).toNat)
    case atStart => exact ⟨0, by omega, rfl, by simp, L⟩
    case round =>
      obtain ⟨k, hk, rfl, rfl, L⟩ := hrel
      by_cases hlt : k < es.length
      · obtain ⟨b, off, rfl, hbb, g1, g2⟩ := L.at_ k _ (List.getElem?_eq_getElem hlt)
        have hst := Lib.hid (countP_take_succ hlt (endB v))
        have hle := countP_take_le (l := es) (k := k) (endB v)
        have s1 := L.lt
        generalize es[k] = e at *
        go_wp2_with (go_at_call 157; refine (endsAt_any _ _ _ _).mono ?_; rintro e2 w2 ⟨rfl, hb2⟩)
        · have hf : endB v e = true := ‹endB v (e.fst, e.snd) = true›
          go_roundw
          case rel => exact ⟨k + 1, by omega, by go_num, by rw [hst.out, if_pos hf]; go_num, L.step (((Below.refl _ _).alloc (Nat.le_refl _) _).trans (hb2.mono (by simp))) s1⟩
          case measure => simp [intOf]; omega
        · have hf : endB v e = false := ‹endB v (e.fst, e.snd) = false›
          go_roundw
          case rel => exact ⟨k + 1, by omega, by go_num, by rw [hst.out, hf]; rfl, L.step (((Below.refl _ _).alloc (Nat.le_refl _) _).trans (hb2.mono (by simp))) s1⟩
          case measure => simp [intOf]; omega
      · obtain rfl : k = es.length := by omega
        rw [List.take_length]
        go_wp2
        go_returns
        exact ⟨retI (by simp [degI, HN.out]), L.below⟩
  · have HN : Hid (nodeOkB n es v = false) := by simpa [Hid] using hn
    clear hn
    go_enter Try.func145, Try.ntmps145
    go_wp2_with fail
    refine (nodeOk_any _ _ _ _ _ _ hes' hl).mono ?_
    rintro e1 w1 ⟨rfl, hb1⟩
    rw [HN.out]
    go_wp2_with fail
    go_returns
    exact ⟨retI (by simp [degI, HN.out]), boxEB hb1⟩
end Go.Proofs.Ytdacfeebidhgnab
