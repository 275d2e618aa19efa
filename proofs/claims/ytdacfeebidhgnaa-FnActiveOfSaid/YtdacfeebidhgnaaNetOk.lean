/- NetOk of the program and of the reference. -/
import Derived.Test.YtdacfeebidhgnaaEd
import Derived.Test.YtdacfeebidhgnaaRows
import Derived.Deep.QuietTactic
import Derived.BigQuiet
import Derived.BigGuardPart
namespace Go.Proofs.Ytdacfeebidhgnaa
open Go.RowKit
set_option maxRecDepth 100000

theorem fits_any (a b n : Int) (w : World) :
    Calls Try.prog 96 #[.agg #[.int .i64 a, .int .i64 b], .int .i64 n] w fun e w' => e = .returned (.bool (fitsB n (a, b))) ∧ Below w.heap.size w w' := by
  go_enter Try.func96, Try.ntmps96
  go_wp2
  all_goals (go_returns; exact ⟨by simp [fitsB, *] <;> omega, by go_grown⟩)

theorem netOk_any (n : Int) (A : Option Addr) (cap : Nat) (es : List (Int × Int)) (w : World) (hes : EdgesIn w w.heap.size A es) (hl : es.length ≤ 1048576) :
    Calls Try.prog 37 #[.agg #[.int .i64 n, .slice A es.length cap]] w fun e w' => e = .returned (.bool (netOkB n es)) ∧ Below w.heap.size w w' := by
  by_cases h0 : 2 ≤ n ∧ n ≤ 6 ∧ es.length ≤ 9
  · obtain ⟨h1, h2, h3⟩ := h0
    go_enter Try.func37, Try.ntmps37
    go_wp2
    go_loopw [22] (fun i wr => ∃ k : Nat, k ≤ es.length ∧ i = .int .i64 k ∧ Hid ((es.take k).all (fitsB n) = true) ∧ Below (w.heap.size + 1) (w.alloc (.cells #[.int .i64 n, .slice A es.length cap] 29)) wr) (fun i _ => es.length - (intOf i).toNat)
    case atStart => exact ⟨0, by omega, rfl, by simp [Hid], by go_grown⟩
    case round =>
      obtain ⟨k, hk, rfl, hall, hb⟩ := hrel
      have hc0 : wr.cell? ⟨w.heap.size, 0, none⟩ = some (.int .i64 n) := by
        rw [hb.cell (p := ⟨w.heap.size, 0, none⟩) (by simp), World.cell?_alloc_at _ _ _ _ rfl]; rfl
      have hsz := hb.size
      simp only [World.size_alloc, Nat.succ_le_iff] at hsz
      by_cases hlt : k < es.length
      · obtain ⟨b, off, rfl, hbb, g1, g2⟩ := ((hes.alloc (Nat.le_refl _) _).below hb (by omega)) k _ (List.getElem?_eq_getElem hlt)
        have hfit := Lib.hid (all_take_succ hlt (fitsB n))
        have hno : Hid (fitsB n es[k] = false → netOkB n es = false) := fun h => by
          simp only [netOkB, Bool.and_eq_false_iff]; exact .inr (.inr (.inr (List.all_eq_false.2 ⟨es[k], List.getElem_mem hlt, by simp [h]⟩)))
        generalize es[k] = e at *
        go_wp2_with (go_at_call 96; refine (fits_any _ _ _ _).mono ?_; rintro e1 w1 ⟨rfl, hb1⟩)
        · have hf : fitsB n e = false := by simpa using ‹(!fitsB n (e.fst, e.snd)) = true›
          go_returns
          exact ⟨by rw [hno.out hf]; rfl, (((Below.refl _ _).alloc (Nat.le_refl _) _).trans (hb.mono (by omega))).trans (((Below.refl _ _).alloc (by omega) _).trans (hb1.mono (by simp; omega)))⟩
        · have hf : fitsB n e = true := by simpa using ‹(!fitsB n (e.fst, e.snd)) = false›
          go_roundw
          case rel => exact ⟨k + 1, by omega, by go_num, by rw [hfit.out, hall.out, hf]; rfl, hb.trans (((Below.refl _ _).alloc (by omega) _).trans (hb1.mono (by simp; omega)))⟩
          case measure => simp [intOf]; omega
      · obtain rfl : k = es.length := by omega
        rw [List.take_length] at hall
        go_wp2
        go_returns
        exact ⟨by simp [netOkB, h1, h2, h3, hall.out], ((Below.refl _ _).alloc (Nat.le_refl _) _).trans (hb.mono (by omega))⟩
  · have hno : Hid (netOkB n es = false) := by
      unfold Hid
      simp only [netOkB, Bool.and_eq_false_iff, decide_eq_false_iff_not]; omega
    go_enter Try.func37, Try.ntmps37
    go_wp2
    all_goals first | (exfalso; omega) | (go_returns; exact ⟨by rw [hno.out]; rfl, by go_grown⟩)

theorem l1In_any (n lo hi : Int) (w : World) :
    Calls Try.prog 79 #[.int .i64 n, .int .i64 lo, .int .i64 hi] w fun e w' => e = .returned (.bool (decide (lo ≤ n) && decide (n ≤ hi))) ∧ w = w' := by
  by_cases h1 : lo ≤ n <;> by_cases h2 : n ≤ hi <;>
  · go_enter Try.func79, Try.ntmps79
    go_wp2
    go_ret
    exact ⟨by simp [h1, h2], rfl⟩

theorem specNetOk_any (n : Int) (A : Option Addr) (cap : Nat) (es : List (Int × Int)) (w : World) (hes : EdgesIn w w.heap.size A es) (hl : es.length ≤ 1048576) :
    Calls Try.prog 52 #[.agg #[.int .i64 n, .slice A es.length cap]] w fun e w' => e = .returned (.bool (netOkB n es)) ∧ Below w.heap.size w w' := by
  go_enter Try.func52, Try.ntmps52
  go_wp2
  go_loopw [3] (fun i wr => ∃ k : Nat, k ≤ es.length ∧ i = .int .i64 k ∧ Hid ((es.take k).all (fitsB n) = true) ∧ Below (w.heap.size + 1) (w.alloc (.cells #[.int .i64 n, .slice A es.length cap] 29)) wr) (fun i _ => es.length - (intOf i).toNat)
  case atStart => exact ⟨0, by omega, rfl, by simp [Hid], by go_grown⟩
  case round =>
    obtain ⟨k, hk, rfl, hall, hb⟩ := hrel
    have hc0 : wr.cell? ⟨w.heap.size, 0, none⟩ = some (.int .i64 n) := by
      rw [hb.cell (p := ⟨w.heap.size, 0, none⟩) (by simp), World.cell?_alloc_at _ _ _ _ rfl]; rfl
    have hc1 : wr.cell? ⟨w.heap.size, 1, none⟩ = some (.slice A es.length cap) := by
      rw [hb.cell (p := ⟨w.heap.size, 1, none⟩) (by simp), World.cell?_alloc_at _ _ _ _ rfl]; rfl
    have hsz := hb.size
    simp only [World.size_alloc, Nat.succ_le_iff] at hsz
    by_cases hlt : k < es.length
    · obtain ⟨b, off, rfl, hbb, g1, g2⟩ := ((hes.alloc (Nat.le_refl _) _).below hb (by omega)) k _ (List.getElem?_eq_getElem hlt)
      have hfit := Lib.hid (all_take_succ hlt (fitsB n))
      have hno : Hid (fitsB n es[k] = false → netOkB n es = false) := fun h => by
        simp only [netOkB, Bool.and_eq_false_iff]; exact .inr (.inr (.inr (List.all_eq_false.2 ⟨es[k], List.getElem_mem hlt, by simp [h]⟩)))
      generalize es[k] = e at *
      have h4 : e.1 < 1 ∨ (1 ≤ e.1 ∧ e.2 ≤ e.1) ∨ (1 ≤ e.1 ∧ e.1 < e.2 ∧ n < e.2) ∨ (1 ≤ e.1 ∧ e.1 < e.2 ∧ e.2 ≤ n) := by omega
      rcases h4 with h | ⟨h, h'⟩ | ⟨h, h', h''⟩ | ⟨h, h', h''⟩
      · have hf := Lib.hid (hno.out (by simp [fitsB]; omega))
        go_wp2
        go_quiet (fail)
        go_wp2
        go_returns
        exact ⟨by rw [hf.out]; rfl, belowN (((Below.refl _ _).alloc (Nat.le_refl _) _).trans (hb.mono (by omega))) nq⟩
      · have d1 : decide (e.1 < 1) = false := by simpa using h
        have hf := Lib.hid (hno.out (by simp [fitsB]; omega))
        go_wp2
        go_quiet (fail)
        go_wp2
        go_returns
        exact ⟨by rw [hf.out]; rfl, belowN (((Below.refl _ _).alloc (Nat.le_refl _) _).trans (hb.mono (by omega))) nq⟩
      · have d1 : decide (e.1 < 1) = false := by simpa using h
        have d2 : decide (e.2 ≤ e.1) = false := by simpa using h'
        have hf := Lib.hid (hno.out (by simp [fitsB]; omega))
        go_wp2
        go_quiet (fail)
        go_wp2
        go_returns
        exact ⟨by rw [hf.out]; rfl, belowN (((Below.refl _ _).alloc (Nat.le_refl _) _).trans (hb.mono (by omega))) nq⟩
      · have d1 : decide (e.1 < 1) = false := by simpa using h
        have d2 : decide (e.2 ≤ e.1) = false := by simpa using h'
        have hf : Hid (fitsB n e = true) := by simp [Hid, fitsB]; omega
        go_wp2
        go_quiet (fail)
        go_wp2
        go_roundw
        case rel => exact ⟨k + 1, by omega, by go_num, by rw [hfit.out, hall.out, hf.out]; rfl, belowN hb nq⟩
        case measure => simp [intOf]; omega
    · obtain rfl : k = es.length := by omega
      rw [List.take_length] at hall
      have hq : netOkB n es = (decide (2 ≤ n) && (decide (n ≤ 6) && decide (es.length ≤ 9))) := by simp [netOkB, hall.out]
      have HQ := Lib.hid hq
      clear hq
      go_wp2_with (go_at_call 79; refine (l1In_any _ _ _ _).mono ?_; rintro e1 w1 ⟨rfl, rfl⟩)
      · have hq := ‹2 ≤ n ∧ n ≤ 6›
        go_returns
        exact ⟨by rw [HQ.out]; simp [hq.1, hq.2]; omega, ((Below.refl _ _).alloc (Nat.le_refl _) _).trans (hb.mono (by omega))⟩
      · have hq := ‹n < 2 ∨ 6 < n›
        have hq2 : (decide (2 ≤ n) && (decide (n ≤ 6) && decide (es.length ≤ 9))) = false := by simp; omega
        go_returns
        exact ⟨by rw [HQ.out, hq2]; rfl, ((Below.refl _ _).alloc (Nat.le_refl _) _).trans (hb.mono (by omega))⟩
end Go.Proofs.Ytdacfeebidhgnaa
