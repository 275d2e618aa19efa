/- EdgesAt of the program and of the reference; nodeOk, edgeAtOk of the program. -/
import Derived.Test.YtmfnlfcpnajngaaState
namespace Go.Proofs.Ytmfnlfcpnajngaa
open Go.RowKit
set_option maxRecDepth 100000

def endB (v : Int) (e : Int × Int) : Bool := decide (e.1 = v) || decide (e.2 = v)
def nodeOkB (n : Int) (es : List (Int × Int)) (v : Int) : Bool := netOkB n es && (decide (1 ≤ v) && decide (v ≤ n))
def atOkB (n : Int) (es : List (Int × Int)) (k : Int) : Bool := netOkB n es && (decide (0 ≤ k) && decide (k < es.length))
def degI (n : Int) (es : List (Int × Int)) (v : Int) : Int := if nodeOkB n es v = true then (es.countP (endB v) : Nat) else -1
theorem countP_take_succ {α : Type} {l : List α} {k : Nat} (h : k < l.length) (p : α → Bool) : (l.take (k + 1)).countP p = (l.take k).countP p + (if p l[k] = true then 1 else 0) := by
  rw [List.take_succ_eq_append_getElem h, List.countP_append]; simp [List.countP_cons]
theorem countP_take_le {α : Type} {l : List α} {k : Nat} (p : α → Bool) : (l.take k).countP p ≤ k :=
  Nat.le_trans List.countP_le_length (List.length_take_le _ _)

theorem endsAt_any (a b v : Int) (w : World) :
    Calls Try.prog 62 #[.agg #[.int .i64 a, .int .i64 b], .int .i64 v] w fun e w' => e = .returned (.bool (endB v (a, b))) ∧ Below w.heap.size w w' := by
  by_cases h1 : a = v <;> by_cases h2 : b = v <;>
  · have H1 := Lib.hid h1
    have H2 := Lib.hid h2
    have q1 : (a == v) = decide (a = v) := by simp [h1]
    have q2 : (b == v) = decide (b = v) := by simp [h2]
    simp only [h1, h2, decide_true, decide_false] at q1 q2
    clear h1 h2
    go_enter Try.func62, Try.ntmps62
    go_wp2
    go_returns
    exact ⟨by simp [endB, H1.out, H2.out], by go_grown⟩

theorem nodeOk_any (n v : Int) (A : Option Addr) (cap : Nat) (es : List (Int × Int)) (w : World) (hes : EdgesIn w w.heap.size A es) (hl : es.length ≤ 1048576) :
    Calls Try.prog 54 #[.agg #[.int .i64 n, .slice A es.length cap], .int .i64 v] w fun e w' => e = .returned (.bool (nodeOkB n es v)) ∧ Below w.heap.size w w' := by
  have hes' := boxE hes #[.int .i64 n, .slice A es.length cap] 25
  by_cases hn : netOkB n es = true
  · have HN := Lib.hid hn
    clear hn
    go_enter Try.func54, Try.ntmps54
    go_wp2_with fail
    refine (netOk_any _ _ _ _ _ hes' hl).mono ?_
    rintro e1 w1 ⟨rfl, hb1⟩
    rw [HN.out]
    have hc := oldCell hb1; have hf := oldMark hb1
    go_wp2_with fail
    all_goals go_returns
    all_goals exact ⟨retB (by simp [nodeOkB, HN.out]; try omega), boxEB hb1⟩
  · have HN : Hid (netOkB n es = false) := by simpa [Hid] using hn
    clear hn
    go_enter Try.func54, Try.ntmps54
    go_wp2_with fail
    refine (netOk_any _ _ _ _ _ hes' hl).mono ?_
    rintro e1 w1 ⟨rfl, hb1⟩
    rw [HN.out]
    go_wp2_with fail
    go_returns
    exact ⟨retB (by simp [nodeOkB, HN.out]), boxEB hb1⟩

theorem edgesAt_any (n v : Int) (A : Option Addr) (cap : Nat) (es : List (Int × Int)) (w : World) (hes : EdgesIn w w.heap.size A es) (hl : es.length ≤ 1048576) :
    Calls Try.prog 32 #[.agg #[.int .i64 n, .slice A es.length cap], .int .i64 v] w fun e w' => e = .returned (.int .i64 (degI n es v)) ∧ Below w.heap.size w w' := by
  have hes' := boxE hes #[.int .i64 n, .slice A es.length cap] 25
  by_cases hn : nodeOkB n es v = true
  · have HN := Lib.hid hn
    clear hn
    go_enter Try.func32, Try.ntmps32
    go_wp2_with fail
    refine (nodeOk_any _ _ _ _ _ _ hes' hl).mono ?_
    rintro e1 w1 ⟨rfl, hb1⟩
    rw [HN.out]
    have hc := oldCell hb1; have hf := oldMark hb1
    have L := (ArgNet.start (cap := cap) (n := n) 25 hes).step hb1 (by simp)
    clear hes hes'
    go_wp2_with fail
    clear hc hf
    go_loopw [5, 15] (fun c i wr => ∃ k : Nat, k ≤ es.length ∧ i = .int .i64 k ∧ c = .int .i64 ((es.take k).countP (endB v) : Nat) ∧ ArgNet w wr n A cap es) (fun _ i _ => es.length - (intOf i).toNat)
    case atStart => exact ⟨0, by omega, rfl, by simp, L⟩
    case round =>
      obtain ⟨k, hk, rfl, rfl, L⟩ := hrel
      by_cases hlt : k < es.length
      · obtain ⟨b, off, rfl, hbb, g1, g2⟩ := L.at_ k _ (List.getElem?_eq_getElem hlt)
        have hst := Lib.hid (countP_take_succ hlt (endB v))
        have hle := countP_take_le (l := es) (k := k) (endB v)
        have s1 := L.lt
        generalize es[k] = e at *
        go_wp2_with (go_at_call 62; refine (endsAt_any _ _ _ _).mono ?_; rintro e2 w2 ⟨rfl, hb2⟩)
        · have hf : endB v e = true := ‹endB v (e.fst, e.snd) = true›
          go_roundw
          case rel => exact ⟨k + 1, by omega, by go_num, by rw [hst.out, if_pos hf]; go_num, L.step (((Below.refl _ _).alloc (Nat.le_refl _) _).trans (hb2.mono (by simp))) s1⟩
          case measure => simp [intOf]; omega
        · have hf : endB v e = false := ‹endB v (e.fst, e.snd) = false›
          go_roundw
          case rel => exact ⟨k + 1, by omega, by go_num, by rw [hst.out, hf]; rfl, L.step (((Below.refl _ _).alloc (Nat.le_refl _) _).trans (hb2.mono (by simp))) s1⟩
          case measure => simp [intOf]; omega
      · obtain rfl : k = es.length := by omega
        rw [List.take_length]
        go_wp2
        go_returns
        exact ⟨retI (by simp [degI, HN.out]), L.below⟩
  · have HN : Hid (nodeOkB n es v = false) := by simpa [Hid] using hn
    clear hn
    go_enter Try.func32, Try.ntmps32
    go_wp2_with fail
    refine (nodeOk_any _ _ _ _ _ _ hes' hl).mono ?_
    rintro e1 w1 ⟨rfl, hb1⟩
    rw [HN.out]
    go_wp2_with fail
    go_returns
    exact ⟨retI (by simp [degI, HN.out]), boxEB hb1⟩
end Go.Proofs.Ytmfnlfcpnajngaa
