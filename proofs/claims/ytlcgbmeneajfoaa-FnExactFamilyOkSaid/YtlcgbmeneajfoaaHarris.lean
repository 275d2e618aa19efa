/- Plain facts: what goes on working with more helps each other, and with things of their own does not. -/
import Derived.Test.YtlcgbmeneajfoaaMore2
namespace Go.Proofs.Ytlcgbmeneajfoaa
set_option maxRecDepth 100000

/-- In how many states of l things it works. -/
def inAll (l : Nat) (A : Nat → Bool) : Nat := (List.range (2 ^ l)).countP A
theorem inAll_top (l : Nat) (A : Nat → Bool) : inAll (l + 1) A = inAll l A + inAll l (fun s => A (2 ^ l + s)) := by
  unfold inAll
  rw [Nat.pow_succ, Nat.mul_comm, Nat.two_mul, List.range_add, List.countP_append, List.countP_map]
  rfl
theorem countP_sum_le {P A B C : Nat → Bool} : ∀ l : List Nat, (∀ x ∈ l, (if P x = true then 1 else 0) + (if A x = true then 1 else 0) ≤ (if B x = true then 1 else 0) + (if C x = true then 1 else 0)) → l.countP P + l.countP A ≤ l.countP B + l.countP C
  | [], _ => by simp
  | x :: l, h => by
    have h1 := h x (by simp)
    have h2 := countP_sum_le l (fun y hy => h y (by simp [hy]))
    simp only [List.countP_cons]
    omega
theorem inAll_mono {l : Nat} {A B : Nat → Bool} (h : ∀ s, s < 2 ^ l → A s = true → B s = true) : inAll l A ≤ inAll l B :=
  List.countP_mono_left fun s hs => h s (by simpa using hs)
theorem top_bit {l s : Nat} (hs : s < 2 ^ l) (i : Nat) : (2 ^ l + s).testBit i = if i < l then s.testBit i else decide (i = l) := by
  by_cases h1 : i < l
  · rw [if_pos h1, Nat.testBit_two_pow_add_gt h1]
  · rw [if_neg h1]
    by_cases h2 : i = l
    · subst h2; rw [Nat.testBit_two_pow_add_eq, Nat.testBit_lt_two_pow hs]; simp
    · have h3 : 2 ^ l + s < 2 ^ (l + 1) := by rw [Nat.pow_succ]; omega
      rw [Nat.testBit_lt_two_pow (Nat.lt_of_lt_of_le h3 (Nat.pow_le_pow_right (by omega) (show l + 1 ≤ i by omega)))]
      simp [h2]
theorem UpS.low {l : Nat} {A : Nat → Bool} (h : UpS (l + 1) A) : UpS l A := fun s t hs ht hst hA =>
  h s t (by rw [Nat.pow_succ]; omega) (by rw [Nat.pow_succ]; omega) hst hA
theorem top_sub {l s t : Nat} (hs : s < 2 ^ l) (ht : t < 2 ^ l) (h : s &&& t = s) : (2 ^ l + s) &&& (2 ^ l + t) = 2 ^ l + s := sub_iff.2 fun i hi => by
  rw [top_bit hs] at hi
  rw [top_bit ht]
  by_cases h1 : i < l
  · rw [if_pos h1] at hi ⊢; exact sub_iff.1 h i hi
  · rw [if_neg h1] at hi ⊢; exact hi
theorem UpS.high {l : Nat} {A : Nat → Bool} (h : UpS (l + 1) A) : UpS l (fun s => A (2 ^ l + s)) := fun s t hs ht hst hA =>
  h _ _ (by rw [Nat.pow_succ]; omega) (by rw [Nat.pow_succ]; omega) (top_sub hs ht hst) hA
theorem low_top {l s : Nat} (hs : s < 2 ^ l) : s &&& (2 ^ l + s) = s := sub_iff.2 fun i hi => by
  rw [top_bit hs, if_pos (high_bit hs hi)]; exact hi
theorem UpS.step {l : Nat} {A : Nat → Bool} (h : UpS (l + 1) A) {s : Nat} (hs : s < 2 ^ l) (hA : A s = true) : A (2 ^ l + s) = true :=
  h _ _ (by rw [Nat.pow_succ]; omega) (by rw [Nat.pow_succ]; omega) (low_top hs) hA
theorem cross {a0 a1 b0 b1 : Nat} (ha : a0 ≤ a1) (hb : b0 ≤ b1) : a0 * b1 + a1 * b0 ≤ a0 * b0 + a1 * b1 := by
  obtain ⟨x, rfl⟩ : ∃ x, a1 = a0 + x := ⟨a1 - a0, by omega⟩
  obtain ⟨y, rfl⟩ : ∃ y, b1 = b0 + y := ⟨b1 - b0, by omega⟩
  simp only [Nat.mul_add, Nat.add_mul]
  omega
/-- Both are not less likely together. -/
theorem harris : ∀ (l : Nat) (A B : Nat → Bool), UpS l A → UpS l B → inAll l A * inAll l B ≤ inAll l (fun s => A s && B s) * 2 ^ l
  | 0, A, B, _, _ => by
    unfold inAll
    cases hA : A 0 <;> cases hB : B 0 <;> simp [hA, hB]
  | l + 1, A, B, hA, hB => by
    have h0 := harris l A B hA.low hB.low
    have h1 := harris l _ _ hA.high hB.high
    have ha := inAll_mono (l := l) (fun s hs h => hA.step hs h)
    have hb := inAll_mono (l := l) (fun s hs h => hB.step hs h)
    rw [inAll_top l A, inAll_top l B, inAll_top l (fun s => A s && B s), Nat.pow_succ]
    have hc := cross ha hb
    generalize inAll l A = a0 at *
    generalize inAll l B = b0 at *
    generalize inAll l (fun s => A (2 ^ l + s)) = a1 at *
    generalize inAll l (fun s => B (2 ^ l + s)) = b1 at *
    generalize inAll l (fun s => A s && B s) = c0 at *
    generalize inAll l (fun s => A (2 ^ l + s) && B (2 ^ l + s)) = c1 at *
    generalize 2 ^ l = P at *
    have e1 : (a0 + a1) * (b0 + b1) = a0 * b0 + a0 * b1 + (a1 * b0 + a1 * b1) := by simp only [Nat.mul_add, Nat.add_mul]; omega
    have e2 : (c0 + c1) * (P * 2) = 2 * (c0 * P) + 2 * (c1 * P) := by rw [← Nat.mul_assoc, Nat.add_mul, Nat.add_mul]; omega
    rw [e1, e2]
    omega

/-- By things of their own. -/
def apB (l : Nat) (A B : Nat → Bool) (s : Nat) : Bool := (List.range (2 ^ l)).any fun p => (List.range (2 ^ l)).any fun q => decide (p &&& q = 0 ∧ p &&& s = p ∧ q &&& s = q) && (A p && B q)
theorem apB_iff {l : Nat} {A B : Nat → Bool} {s : Nat} : apB l A B s = true ↔ ∃ p q, p < 2 ^ l ∧ q < 2 ^ l ∧ p &&& q = 0 ∧ p &&& s = p ∧ q &&& s = q ∧ A p = true ∧ B q = true := by
  unfold apB
  simp only [List.any_eq_true, List.mem_range, Bool.and_eq_true, decide_eq_true_eq]
  constructor
  · rintro ⟨p, hp, q, hq, ⟨h1, h2, h3⟩, h4, h5⟩; exact ⟨p, q, hp, hq, h1, h2, h3, h4, h5⟩
  · rintro ⟨p, q, hp, hq, h1, h2, h3, h4, h5⟩; exact ⟨p, hp, q, hq, ⟨h1, h2, h3⟩, h4, h5⟩
theorem sub_lt {l p s : Nat} (hs : s < 2 ^ l) (h : p &&& s = p) : p < 2 ^ l := by
  have := Nat.and_le_right (n := p) (m := s)
  omega
theorem split_top {l p : Nat} (hp : p < 2 ^ (l + 1)) : p < 2 ^ l ∨ ∃ p', p' < 2 ^ l ∧ p = 2 ^ l + p' := by
  rw [Nat.pow_succ] at hp
  rcases Nat.lt_or_ge p (2 ^ l) with h | h
  · exact .inl h
  · exact .inr ⟨p - 2 ^ l, by omega, by omega⟩
theorem top_low {l p s : Nat} (hp : p < 2 ^ l) (hs : s < 2 ^ l) : p &&& (2 ^ l + s) = p ↔ p &&& s = p := by
  rw [sub_iff, sub_iff]
  constructor
  · intro h i hi; have := h i hi; rwa [top_bit hs, if_pos (high_bit hp hi)] at this
  · intro h i hi; rw [top_bit hs, if_pos (high_bit hp hi)]; exact h i hi
theorem top_top {l p s : Nat} (hp : p < 2 ^ l) (hs : s < 2 ^ l) : (2 ^ l + p) &&& (2 ^ l + s) = 2 ^ l + p ↔ p &&& s = p := by
  constructor
  · intro h
    refine sub_iff.2 fun i hi => ?_
    have hil := high_bit hp hi
    have := sub_iff.1 h i (by rw [top_bit hp, if_pos hil]; exact hi)
    rwa [top_bit hs, if_pos hil] at this
  · exact top_sub hp hs
theorem top_disj {l p q : Nat} (hp : p < 2 ^ l) (hq : q < 2 ^ l) : (2 ^ l + p) &&& q = 0 ↔ p &&& q = 0 := by
  rw [disj_iff, disj_iff]
  constructor
  · intro h i hi
    exact h i (by rw [top_bit hp, if_pos (high_bit hp hi)]; exact hi)
  · intro h i hi
    rw [top_bit hp] at hi
    by_cases h1 : i < l
    · rw [if_pos h1] at hi; exact h i hi
    · exact Nat.testBit_lt_two_pow (Nat.lt_of_lt_of_le hq (Nat.pow_le_pow_right (by omega) (by omega)))
theorem top_both {l p q : Nat} (hp : p < 2 ^ l) (hq : q < 2 ^ l) : ¬ (2 ^ l + p) &&& (2 ^ l + q) = 0 := fun h => by
  have := disj_iff.1 h l (by rw [top_bit hp]; simp)
  rw [top_bit hq] at this; simp at this
theorem apB_low {l : Nat} {A B : Nat → Bool} {s : Nat} (hs : s < 2 ^ l) : apB (l + 1) A B s = apB l A B s := by
  rw [Bool.eq_iff_iff, apB_iff, apB_iff]
  constructor
  · rintro ⟨p, q, _, _, h1, h2, h3, h4, h5⟩; exact ⟨p, q, sub_lt hs h2, sub_lt hs h3, h1, h2, h3, h4, h5⟩
  · rintro ⟨p, q, hp, hq, h⟩; exact ⟨p, q, by rw [Nat.pow_succ]; omega, by rw [Nat.pow_succ]; omega, h⟩
theorem apB_high {l : Nat} {A B : Nat → Bool} (hA : UpS (l + 1) A) {s : Nat} (hs : s < 2 ^ l) (h : apB (l + 1) A B (2 ^ l + s) = true) :
    apB l (fun s => A (2 ^ l + s)) B s = true ∨ apB l A (fun s => B (2 ^ l + s)) s = true := by
  obtain ⟨p, q, hp, hq, h1, h2, h3, h4, h5⟩ := apB_iff.1 h
  rcases split_top hp with hp' | ⟨p', hp', rfl⟩
  · rcases split_top hq with hq' | ⟨q', hq', rfl⟩
    · exact .inl (apB_iff.2 ⟨p, q, hp', hq', h1, (top_low hp' hs).1 h2, (top_low hq' hs).1 h3, hA.step hp' h4, h5⟩)
    · rw [Nat.and_comm] at h1
      have h1' := (top_disj hq' hp').1 h1
      rw [Nat.and_comm] at h1'
      exact .inr (apB_iff.2 ⟨p, q', hp', hq', h1', (top_low hp' hs).1 h2, (top_top hq' hs).1 h3, h4, h5⟩)
  · rcases split_top hq with hq' | ⟨q', hq', rfl⟩
    · exact .inl (apB_iff.2 ⟨p', q, hp', hq', (top_disj hp' hq').1 h1, (top_top hp' hs).1 h2, (top_low hq' hs).1 h3, h4, h5⟩)
    · exact absurd h1 (top_both hp' hq')
/-- With things of their own both are not more likely. -/
theorem own_things : ∀ (l : Nat) (A B : Nat → Bool), UpS l A → UpS l B → inAll l (apB l A B) * 2 ^ l ≤ inAll l A * inAll l B
  | 0, A, B, _, _ => by
    unfold inAll
    have h : apB 0 A B 0 = (A 0 && B 0) := by simp [apB]
    cases hA : A 0 <;> cases hB : B 0 <;> simp [h, hA, hB]
  | l + 1, A, B, hA, hB => by
    have h0 := own_things l _ B hA.high hB.low
    have h1 := own_things l A _ hA.low hB.high
    have ha := inAll_mono (l := l) (fun s hs h => hA.step hs h)
    have hb := inAll_mono (l := l) (fun s hs h => hB.step hs h)
    have hc := cross ha hb
    have hr : inAll l (apB (l + 1) A B) + inAll l (fun s => apB (l + 1) A B (2 ^ l + s)) ≤ inAll l (apB l (fun s => A (2 ^ l + s)) B) + inAll l (apB l A (fun s => B (2 ^ l + s))) := by
      refine countP_sum_le _ fun s hs => ?_
      have hs' : s < 2 ^ l := by simpa using hs
      rw [apB_low hs']
      have hx : apB l A B s = true → apB l (fun s => A (2 ^ l + s)) B s = true := fun h => by
        obtain ⟨p, q, hp, hq, h1, h2, h3, h4, h5⟩ := apB_iff.1 h
        exact apB_iff.2 ⟨p, q, hp, hq, h1, h2, h3, hA.step hp h4, h5⟩
      have hy : apB l A B s = true → apB l A (fun s => B (2 ^ l + s)) s = true := fun h => by
        obtain ⟨p, q, hp, hq, h1, h2, h3, h4, h5⟩ := apB_iff.1 h
        exact apB_iff.2 ⟨p, q, hp, hq, h1, h2, h3, h4, hB.step hq h5⟩
      have hz := apB_high (B := B) hA hs'
      cases h0 : apB l A B s with
      | true =>
        rw [if_pos (hx h0), if_pos (hy h0)]
        split <;> split <;> omega
      | false =>
        cases h1 : apB (l + 1) A B (2 ^ l + s) with
        | false => simp
        | true =>
          rcases hz h1 with h2 | h2
          · rw [if_pos h2]; simp
          · rw [if_pos h2]; simp
    rw [inAll_top l (apB (l + 1) A B), inAll_top l A, inAll_top l B, Nat.pow_succ]
    generalize inAll l (apB (l + 1) A B) = r0 at *
    generalize inAll l (fun s => apB (l + 1) A B (2 ^ l + s)) = r1 at *
    generalize inAll l (apB l (fun s => A (2 ^ l + s)) B) = x at *
    generalize inAll l (apB l A (fun s => B (2 ^ l + s))) = y at *
    generalize inAll l A = a0 at *
    generalize inAll l B = b0 at *
    generalize inAll l (fun s => A (2 ^ l + s)) = a1 at *
    generalize inAll l (fun s => B (2 ^ l + s)) = b1 at *
    generalize 2 ^ l = P at *
    have e1 : (a0 + a1) * (b0 + b1) = a0 * b0 + a0 * b1 + (a1 * b0 + a1 * b1) := by simp only [Nat.mul_add, Nat.add_mul]; omega
    have e2 : (r0 + r1) * (P * 2) ≤ (x + y) * (P * 2) := Nat.mul_le_mul_right _ hr
    have e3 : (x + y) * (P * 2) = 2 * (x * P) + 2 * (y * P) := by rw [← Nat.mul_assoc, Nat.add_mul, Nat.add_mul]; omega
    rw [e1]
    omega
end Go.Proofs.Ytlcgbmeneajfoaa
