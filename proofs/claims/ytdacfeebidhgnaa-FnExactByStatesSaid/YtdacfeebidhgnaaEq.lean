/- Equality of edges, of lists of edges and of nets, as the laws ask it. -/
import Derived.Test.YtdacfeebidhgnaaNetOk
import Derived.StillTailTactics
import Derived.Deep.RegionHeld3
import Derived.Deep.QuietTactic
import Derived.BigQuiet
namespace Go.Proofs.Ytdacfeebidhgnaa
open Go.RowKit
set_option maxRecDepth 100000

theorem eqEdge_any (a b c d : Int) (w : World) :
    Calls Try.prog 121 #[.agg #[.int .i64 a, .int .i64 b], .agg #[.int .i64 c, .int .i64 d]] w fun e w' => e = .returned (.bool (eqEB (a, b) (c, d))) ∧ Below w.heap.size w w' := by
  by_cases h1 : a = c <;> by_cases h2 : b = d <;>
  · go_enter Try.func121, Try.ntmps121
    go_wp2
    all_goals (go_returns; exact ⟨by simp [h1, h2, eqEB], by go_grown⟩)

theorem take_succ_eq {α : Type} [DecidableEq α] {l m : List α} {k : Nat} (h : k < l.length) (h' : k < m.length) (e : l.take k = m.take k) : (l.take (k + 1) = m.take (k + 1)) ↔ l[k] = m[k] := by
  rw [List.take_succ_eq_append_getElem h, List.take_succ_eq_append_getElem h', e, List.append_cancel_left_eq]; simp

theorem eqEdgeS_any (A B : Option Addr) (c d : Nat) (es fs : List (Int × Int)) (w : World) (hes : EdgesIn w w.heap.size A es) (hfs : EdgesIn w w.heap.size B fs) (hl : es.length ≤ 1048576) (hl2 : fs.length ≤ 1048576) :
    Calls Try.prog 65 #[.slice A es.length c, .slice B fs.length d] w fun e w' => e = .returned (.bool (eqEsB es fs)) ∧ Below w.heap.size w w' := by
  by_cases hne : es.length = fs.length
  · have he : ∃ n, es.length = n ∧ fs.length = n := ⟨_, rfl, hne.symm⟩
    obtain ⟨n, h1, h2⟩ := he
    rw [h1, h2]
    have H1 := Lib.hid h1
    have H2 := Lib.hid h2
    have hl' : n ≤ 1048576 := by omega
    clear hne hl hl2 h1 h2
    go_enter Try.func65, Try.ntmps65
    go_wp2
    go_loopw [5] (fun i wr => ∃ k : Nat, k ≤ n ∧ i = .int .i64 k ∧ Hid (es.take k = fs.take k) ∧ Below w.heap.size w wr) (fun i _ => n - (intOf i).toNat)
    case atStart => exact ⟨0, by omega, rfl, by simp [Hid], by go_grown⟩
    case round =>
      obtain ⟨k, hk, rfl, hall, hb⟩ := hrel
      by_cases hlt : k < n
      · have k1 : k < es.length := by have := H1.out; omega
        have k2 : k < fs.length := by have := H2.out; omega
        obtain ⟨b, off, rfl, hbb, g1, g2⟩ := (hes.below hb (by omega)) k _ (List.getElem?_eq_getElem k1)
        obtain ⟨b', off', rfl, hbb', g1', g2'⟩ := (hfs.below hb (by omega)) k _ (List.getElem?_eq_getElem k2)
        have hst := Lib.hid (take_succ_eq k1 k2 hall.out)
        have hno : Hid (es[k] ≠ fs[k] → ¬ es = fs) := by rintro h rfl; exact h rfl
        clear hes hfs
        generalize es[k] = e at *
        generalize fs[k] = f at *
        go_wp2
        go_still_tail 8, (by kernel_rfl)
        change wpList _ _ _ _ _ wr.drew
        go_wp2_with (go_at_call 121; refine (eqEdge_any _ _ _ _ _).mono ?_; rintro e1 w1 ⟨rfl, hb1⟩)
        · have hf : ¬ e = f := eqEB_f (not_t ‹(!eqEB (e.fst, e.snd) (f.fst, f.snd)) = true›)
          go_returns
          exact ⟨by simp [eqEsB, hno.out hf], (hb.drew).trans (hb1.mono (by simp; exact hb.size))⟩
        · have hf : e = f := eqEB_t (not_f ‹(!eqEB (e.fst, e.snd) (f.fst, f.snd)) = false›)
          go_roundw
          case rel => exact ⟨k + 1, by omega, by go_num, hst.out.2 hf, (hb.drew).trans (hb1.mono (by simp; exact hb.size))⟩
          case measure => simp [intOf]; omega
      · obtain rfl : k = n := by omega
        have hall : Hid (es = fs) := by
          have := hall.out
          rw [List.take_of_length_le (by rw [H1.out]; omega), List.take_of_length_le (by rw [H2.out]; omega)] at this
          exact this
        go_wp2
        go_returns
        exact ⟨by simp [eqEsB, hall.out], hb⟩
  · have H := Lib.hid hne
    have hq : ((es.length : Int) != fs.length) = true := by simpa using (by omega : (es.length : Int) ≠ fs.length)
    have hno : Hid (¬ es = fs) := by rintro rfl; exact hne rfl
    clear hne
    go_enter Try.func65, Try.ntmps65
    go_wp2
    go_returns
    exact ⟨by simp [eqEsB, hno.out], by go_grown⟩

theorem eqNet_any (n m : Int) (A B : Option Addr) (c d : Nat) (es fs : List (Int × Int)) (w : World) (hes : EdgesIn w w.heap.size A es) (hfs : EdgesIn w w.heap.size B fs) (hl : es.length ≤ 1048576) (hl2 : fs.length ≤ 1048576) :
    Calls Try.prog 19 #[.agg #[.int .i64 n, .slice A es.length c], .agg #[.int .i64 m, .slice B fs.length d]] w fun e w' => e = .returned (.bool (netEqB n m es fs)) ∧ Below w.heap.size w w' := by
  have hes' := ((hes.alloc (Nat.le_refl _) (.cells #[.int .i64 n, .slice A es.length c] 29)).alloc (by simp) (.cells #[.int .i64 m, .slice B fs.length d] 29))
  have hfs' := ((hfs.alloc (Nat.le_refl _) (.cells #[.int .i64 n, .slice A es.length c] 29)).alloc (by simp) (.cells #[.int .i64 m, .slice B fs.length d] 29))
  have hbw : Below w.heap.size w ((w.alloc (.cells #[.int .i64 n, .slice A es.length c] 29)).alloc (.cells #[.int .i64 m, .slice B fs.length d] 29)) := by go_grown
  have H := Lib.hid hbw
  clear hbw
  by_cases hnm : n = m
  · obtain rfl := hnm
    go_enter Try.func19, Try.ntmps19
    go_wp2_with (go_at_call 65; refine (eqEdgeS_any _ _ _ _ _ _ _ (hes'.more (by simp; omega)) (hfs'.more (by simp; omega)) hl hl2).mono ?_; rintro e1 w1 ⟨rfl, hb1⟩)
    · have hf := eqEsB_f (not_t ‹(!eqEsB es fs) = true›)
      go_returns
      exact ⟨by simp [netEqB, hf], H.out.trans (hb1.mono (by simp; omega))⟩
    · have hf := eqEsB_t (not_f ‹(!eqEsB es fs) = false›)
      go_returns
      exact ⟨by simp [netEqB, hf], H.out.trans (hb1.mono (by simp; omega))⟩
  · have hq : (n != m) = true := by simpa using hnm
    have hnm := Lib.hid hnm
    go_enter Try.func19, Try.ntmps19
    go_wp2
    go_returns
    exact ⟨by simp [netEqB, hnm.out], H.out⟩
end Go.Proofs.Ytdacfeebidhgnaa
