/- Plain facts on counts of states, on: states without a ring are choices without a ring; choices. -/
import Derived.Test.YtaplmlbpleilfaaCounts3
namespace Go.Proofs.Ytaplmlbpleilfaa
set_option maxRecDepth 100000

/-- Each edge that is there joins two pieces when it comes. -/
def freeL : List (Nat × Nat) → (Nat → Bool) → (Nat → Nat) → Bool
  | [], _, _ => true
  | e :: es, T, R => (if T 0 = true then !decide (R e.1 = R e.2) else true) && freeL es (fun i => T (i + 1)) (if T 0 = true then glue R e.1 e.2 else R)
def cardL : List (Nat × Nat) → (Nat → Bool) → Nat
  | [], _ => 0
  | _ :: es, T => (if T 0 = true then 1 else 0) + cardL es (fun i => T (i + 1))
theorem card_first (T : Nat → Bool) : ∀ m, card T (m + 1) = (if T 0 = true then 1 else 0) + card (fun i => T (i + 1)) m
  | 0 => by simp [card]
  | m + 1 => by
    rw [card, card_first T m, card]; omega
theorem cardL_card : ∀ (es : List (Nat × Nat)) (T : Nat → Bool), cardL es T = card T es.length
  | [], _ => rfl
  | _ :: es, T => by rw [cardL, List.length_cons, card_first, cardL_card es]
theorem free_cnt {n : Nat} : ∀ (es : List (Nat × Nat)) (T : Nat → Bool) (R : Nat → Nat), EdgesOk n es → Good n R →
    cnt R n ≤ cnt (repL es T R) n + cardL es T ∧ (freeL es T R = true ↔ cnt (repL es T R) n + cardL es T = cnt R n)
  | [], _, R, _, _ => by simp [repL, cardL, freeL]
  | e :: es, T, R, he, hg => by
    have he' : EdgesOk n es := fun x hx => he x (by simp [hx])
    have h1 := he e (by simp)
    have hc := cnt_glue (a := e.1) hg.idem hg.range h1.2
    simp only [repL, cardL, freeL]
    cases ht : T 0 with
    | false =>
      have := free_cnt es (fun i => T (i + 1)) R he' hg
      simpa using this
    | true =>
      have h2 := free_cnt es (fun i => T (i + 1)) (glue R e.1 e.2) he' (hg.glue h1.1)
      simp only [if_true, Bool.and_eq_true, Bool.not_eq_true', decide_eq_false_iff_not]
      by_cases hj : R e.1 = R e.2
      · rw [if_pos hj] at hc
        refine ⟨by omega, ?_⟩
        constructor
        · intro h; exact absurd hj h.1
        · intro h; omega
      · rw [if_neg hj] at hc
        refine ⟨by omega, ?_⟩
        rw [h2.2]
        constructor
        · intro h; omega
        · intro h; exact ⟨hj, by omega⟩
/-- States without a ring with k edges there are choices of k edges without a ring. -/
theorem states_forests : ∀ (es : List (Nat × Nat)) (R : Nat → Nat) (k : Nat), es.length ≤ 10 →
    (List.range (2 ^ es.length)).countP (fun s => freeL es (fun i => s.testBit i) R && decide (pop s = k)) = forests es R k
  | [], R, k, _ => by
    simp only [List.length_nil, Nat.pow_zero, List.range_one, List.countP_cons, List.countP_nil, freeL, forests, pop_zero]
    by_cases hk : k = 0
    · subst hk; simp
    · simp [hk, show ¬ 0 = k from fun e => hk e.symm]
  | e :: es, R, k, h => by
    simp only [List.length_cons] at h ⊢
    have hp := pow_le10 (show es.length ≤ 10 by omega)
    rw [Nat.pow_succ, Nat.mul_comm, countP_double]
    have h1 : (List.range (2 ^ es.length)).countP (fun s => freeL (e :: es) (fun i => (2 * s).testBit i) R && decide (pop (2 * s) = k)) = forests es R k := by
      rw [← states_forests es R k (by omega)]
      refine countP_same fun s hs => ?_
      simp only [freeL, bit_even, pop_even s (by omega)]
      simp
    have h2 : ∀ j, k = j + 1 → (List.range (2 ^ es.length)).countP (fun s => freeL (e :: es) (fun i => (2 * s + 1).testBit i) R && decide (pop (2 * s + 1) = k)) = if R e.1 = R e.2 then 0 else forests es (glue R e.1 e.2) j := by
      intro j hj
      by_cases hr : R e.1 = R e.2
      · rw [if_pos hr, List.countP_eq_zero]
        intro s _
        simp [freeL, hr]
      · rw [if_neg hr, ← states_forests es (glue R e.1 e.2) j (by omega)]
        refine countP_same fun s hs => ?_
        simp only [freeL, bit_odd, pop_odd s (by omega), hj]
        simp [hr]
    rw [h1]
    cases k with
    | zero =>
      have h3 : (List.range (2 ^ es.length)).countP (fun s => freeL (e :: es) (fun i => (2 * s + 1).testBit i) R && decide (pop (2 * s + 1) = 0)) = 0 := by
        rw [List.countP_eq_zero]
        intro s hs
        have := List.mem_range.1 hs
        simp [pop_odd s (by omega)]
      rw [h3]; rfl
    | succ j => rw [h2 j rfl]; rfl
/-- One edge is no ring. -/
theorem forests_one : ∀ (es : List (Nat × Nat)) (R : Nat → Nat), forests es R 1 = es.countP fun e => !decide (R e.1 = R e.2)
  | [], _ => rfl
  | e :: es, R => by
    rw [forests, forests_one es R, forests_zero, List.countP_cons]
    by_cases h : R e.1 = R e.2
    · simp [h]
    · simp [h]
theorem forests_all {es : List (Nat × Nat)} (h : ∀ e ∈ es, e.1 ≠ e.2) : forests es (fun x => x) 1 = es.length := by
  rw [forests_one]
  exact List.countP_eq_length.2 fun e he => by simpa using h e he

theorem chs_zero (n : Nat) : chs n 0 = 1 := by cases n <;> rfl
theorem chs_more : ∀ n k, n < k → chs n k = 0
  | 0, k + 1, _ => rfl
  | n + 1, k + 1, h => by rw [chs, chs_more n (k + 1) (by omega), chs_more n k (by omega)]
  | n, 0, h => by omega
theorem chs_step : ∀ n k, chs n (k + 1) * (k + 1) = chs n k * (n - k)
  | 0, k => by
    rw [show chs 0 (k + 1) = 0 from rfl]; simp
  | n + 1, 0 => by
    have h := chs_step n 0
    have e : chs (n + 1) (0 + 1) = chs n (0 + 1) + chs n 0 := rfl
    rw [e, chs_zero, chs_zero]
    rw [chs_zero] at h
    simp only [Nat.zero_add, Nat.mul_one, Nat.one_mul, Nat.sub_zero] at h ⊢
    omega
  | n + 1, k + 1 => by
    have h1 := chs_step n (k + 1)
    have h2 := chs_step n k
    rw [chs, show chs (n + 1) (k + 1) = chs n (k + 1) + chs n k from rfl]
    generalize chs n (k + 1 + 1) = a at *
    generalize chs n (k + 1) = b at *
    generalize chs n k = c at *
    rw [Nat.add_sub_add_right, Nat.add_mul, Nat.add_mul, h1]
    by_cases hk : k + 1 ≤ n
    · have e1 : n - k = (n - (k + 1)) + 1 := by omega
      have e2 : b * (k + 1 + 1) = b * (k + 1) + b := Nat.mul_succ _ _
      have e3 : b * (n - k) = b * (n - (k + 1)) + b := by rw [e1, Nat.mul_succ]
      omega
    · have e1 : n - k = 0 := by omega
      have e2 : b * (k + 1 + 1) = b * (k + 1) + b := Nat.mul_succ _ _
      have hb : b * (k + 1) = 0 := by rw [h2, e1, Nat.mul_zero]
      have hb0 : b = 0 := by
        rcases Nat.mul_eq_zero.1 hb with h | h
        · exact h
        · omega
      subst hb0
      rw [e1]; simp
/-- All choices together. -/
def chsSum (n : Nat) : Nat → Nat
  | 0 => chs n 0
  | k + 1 => chsSum n k + chs n (k + 1)
theorem chsSum_succ (n : Nat) : ∀ k, chsSum (n + 1) (k + 1) = chsSum n (k + 1) + chsSum n k
  | 0 => by simp only [chsSum, chs, chs_zero]; omega
  | k + 1 => by
    rw [chsSum, chsSum_succ n k]
    simp only [chsSum, chs]
    omega
theorem chsSum_all : ∀ n, chsSum n n = 2 ^ n
  | 0 => rfl
  | n + 1 => by
    rw [chsSum_succ, chsSum, chs_more n (n + 1) (by omega), chsSum_all n, Nat.pow_succ]; omega
theorem chs_div (n k : Nat) : chs n k * (n - k) / (k + 1) = chs n (k + 1) := by
  rw [← chs_step]; exact Nat.mul_div_cancel _ (by omega)
theorem chs_pow : ∀ n k, chs n k ≤ 2 ^ n
  | n, 0 => by rw [chs_zero]; exact Nat.one_le_two_pow
  | 0, k + 1 => by simp [chs]
  | n + 1, k + 1 => by
    have h1 := chs_pow n (k + 1)
    have h2 := chs_pow n k
    rw [chs, Nat.pow_succ]; omega
theorem chs_bound {n : Nat} (h : n ≤ 20) (k : Nat) : chs n k ≤ 1048576 :=
  Nat.le_trans (chs_pow n k) (Nat.le_trans (Nat.pow_le_pow_right (by omega) h) (by decide : 2 ^ 20 ≤ 1048576))
theorem chs_mul (n i : Nat) (h : n ≤ 20) : chs n i * (n - i) ≤ 20971520 := by
  have h1 := chs_bound h i
  calc chs n i * (n - i) ≤ 1048576 * 20 := Nat.mul_le_mul h1 (by omega)
    _ = 20971520 := by decide
end Go.Proofs.Ytaplmlbpleilfaa
