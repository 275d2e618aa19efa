/- The family of paths: cuts block it; it has as many states as join both. -/
import Derived.Test.YtlcgbmeneajfoaaFamW
namespace Go.Proofs.Ytlcgbmeneajfoaa
set_option maxRecDepth 100000

theorem joinS_at {n : Int} {es : List (Int × Int)} {a b : Int} (h : joinOkB n es a b = true) {t : Nat} (ht : t < 2 ^ es.length) : joinedB n es t a b = joinS es a.toNat b.toNat t := by
  have h' := joinOkB_iff.1 h
  have := joinS_is h'.1 (a := a.toNat) (b := b.toNat) (by omega) (by omega) ht
  rwa [show ((a.toNat : Nat) : Int) = a by omega, show ((b.toNat : Nat) : Int) = b by omega] at this
theorem path_ok {n : Int} {es : List (Int × Int)} {a b : Int} (h : joinOkB n es a b = true) : OkN es.length (pathsN n es a b) := by
  have hn := (joinOkB_iff.1 h).1
  unfold pathsN
  rw [if_pos h]
  exact leastL_ok (netOkB_iff.1 hn).2.1 (joinS_up hn _ _)
theorem path_in {n : Int} {es : List (Int × Int)} {a b : Int} (h : joinOkB n es a b = true) {s : Nat} (hs : s < 2 ^ es.length) : famB (pathsN n es a b) s = joinS es a.toNat b.toNat s := by
  have hn := (joinOkB_iff.1 h).1
  unfold pathsN
  rw [if_pos h]
  exact famB_least (netOkB_iff.1 hn).2.1 (joinS_up hn _ _) hs
/-- Its blocker has just the cuts for least states. -/
theorem path_block {n : Int} {es : List (Int × Int)} {a b : Int} (h : joinOkB n es a b = true) : famBl es.length (pathsN n es a b) = cutsN n es a b := by
  unfold famBl cutsN
  rw [if_pos h]
  exact leastL_congr fun s _ => by
    unfold dual
    rw [path_in h (rest_lt _ s)]
theorem sum_by {Q : Nat → Bool} {m : Nat} : ∀ l : List Nat, (∀ s ∈ l, pop s < m) → sumN (fun k => l.countP (fun s => Q s && decide (pop s = k))) m = l.countP Q
  | [], _ => by
    have : ∀ m, sumN (fun _ => 0) m = 0 := fun m => by
      induction m with
      | zero => rfl
      | succ m ih => rw [sumN, ih]
    simpa using this m
  | x :: l, h => by
    have ih := sum_by (Q := Q) (m := m) l (fun s hs => h s (by simp [hs]))
    have hx := h x (by simp)
    have h1 : sumN (fun k => (x :: l).countP (fun s => Q s && decide (pop s = k))) m = sumN (fun k => l.countP (fun s => Q s && decide (pop s = k))) m + sumN (fun k => if Q x = true ∧ pop x = k then 1 else 0) m := by
      rw [← sumN_add]
      refine sumN_congr _ fun k _ => ?_
      rw [List.countP_cons]
      congr 1
      by_cases hq : Q x = true ∧ pop x = k
      · rw [if_pos hq]; simp [hq.1, hq.2]
      · rw [if_neg hq, if_neg]
        intro hh
        rw [Bool.and_eq_true, decide_eq_true_eq] at hh
        exact hq hh
    have h2 : ∀ m, sumN (fun k => if Q x = true ∧ pop x = k then 1 else 0) m = if Q x = true ∧ pop x < m then 1 else 0 := fun m => by
      induction m with
      | zero => simp [sumN]
      | succ m ih =>
        rw [sumN, ih]
        generalize pop x = v at *
        by_cases hq : Q x = true
        · simp only [hq, true_and]
          split <;> split <;> split <;> omega
        · simp [hq]
    rw [h1, h2, ih, List.countP_cons]
    congr 1
    by_cases hq : Q x = true
    · rw [if_pos ⟨hq, hx⟩, if_pos hq]
    · rw [if_neg (fun e => hq e.1), if_neg hq]
/-- There are as many states as the counts of states that join both, together. -/
theorem path_count {n : Int} {es : List (Int × Int)} {a b : Int} (h : joinOkB n es a b = true) : famN es.length (pathsN n es a b) = sumN (fun k => joinC es a.toNat b.toNat k) (es.length + 1) := by
  obtain ⟨hn, ha, hb, -⟩ := joinOkB_iff.1 h
  have h9 := (netOkB_iff.1 hn).2.1
  rw [show famN es.length (pathsN n es a b) = inAll es.length (fun s => joinedB n es s ((a.toNat : Nat) : Int) ((b.toNat : Nat) : Int)) from inAll_congr fun s hs => by
    rw [path_in h hs, show ((a.toNat : Nat) : Int) = a by omega, show ((b.toNat : Nat) : Int) = b by omega, joinS_at h hs]]
  unfold inAll
  rw [← sum_by (Q := fun s : Nat => joinedB n es s ((a.toNat : Nat) : Int) ((b.toNat : Nat) : Int)) (m := es.length + 1) (List.range (2 ^ es.length)) fun s hs => by
    have := pop_low (show s < 2 ^ es.length by simpa using hs) h9
    omega]
  exact sumN_congr _ fun k _ => join_states hn (by omega) (by omega) k
end Go.Proofs.Ytlcgbmeneajfoaa
