/- Plain facts: what goes on working with more helps each other, and with things of their own does not. -/
import Derived.Test.YtmdmmebekicpkaaMore2
import Derived.Test.YtmdmmebekicpkaaList4
namespace Go.Proofs.Ytmdmmebekicpkaa
set_option maxRecDepth 100000

/-- In how many states of l things it works. -/
def inAll (l : Nat) (A : Nat → Bool) : Nat := (List.range (2 ^ l)).countP A
theorem inAll_top (l : Nat) (A : Nat → Bool) : inAll (l + 1) A = inAll l A + inAll l (fun s => A (2 ^ l + s)) := by
  unfold inAll
  rw [Nat.pow_succ, Nat.mul_comm, Nat.two_mul, List.range_add, List.countP_append, List.countP_map]
  rfl
theorem countP_sum_le {P A B C : Nat → Bool} : ∀ l : List Nat, (∀ x ∈ l, (if P x = true then 1 else 0) + (if A x = true then 1 else 0) ≤ (if B x = true then 1 else 0) + (if C x = true then 1 else 0)) → l.countP P + l.countP A ≤ l.countP B + l.countP C
  | [], _ => by simp
  | x :: l, h => by
    have h1 := h x (by simp)
    have h2 := countP_sum_le l (fun y hy => h y (by simp [hy]))
    simp only [List.countP_cons]
    omega
theorem inAll_mono {l : Nat} {A B : Nat → Bool} (h : ∀ s, s < 2 ^ l → A s = true → B s = true) : inAll l A ≤ inAll l B :=
  List.countP_mono_left fun s hs => h s (by simpa using hs)
theorem top_bit {l s : Nat} (hs : s < 2 ^ l) (i : Nat) : (2 ^ l + s).testBit i = if i < l then s.testBit i else decide (i = l) := by
  by_cases h1 : i < l
  · rw [if_pos h1, Nat.testBit_two_pow_add_gt h1]
  · rw [if_neg h1]
    by_cases h2 : i = l
    · subst h2; rw [Nat.testBit_two_pow_add_eq, Nat.testBit_lt_two_pow hs]; simp
    · have h3 : 2 ^ l + s < 2 ^ (l + 1) := by rw [Nat.pow_succ]; omega
      rw [Nat.testBit_lt_two_pow (Nat.lt_of_lt_of_le h3 (Nat.pow_le_pow_right (by omega) (show l + 1 ≤ i by omega)))]
      simp [h2]
theorem UpS.low {l : Nat} {A : Nat → Bool} (h : UpS (l + 1) A) : UpS l A := fun s t hs ht hst hA =>
  h s t (by rw [Nat.pow_succ]; omega) (by rw [Nat.pow_succ]; omega) hst hA
theorem top_sub {l s t : Nat} (hs : s < 2 ^ l) (ht : t < 2 ^ l) (h : s &&& t = s) : (2 ^ l + s) &&& (2 ^ l + t) = 2 ^ l + s := sub_iff.2 fun i hi => by
  rw [top_bit hs] at hi
  rw [top_bit ht]
  by_cases h1 : i < l
  · rw [if_pos h1] at hi ⊢; exact sub_iff.1 h i hi
  · rw [if_neg h1] at hi ⊢; exact hi
theorem UpS.high {l : Nat} {A : Nat → Bool} (h : UpS (l + 1) A) : UpS l (fun s => A (2 ^ l + s)) := fun s t hs ht hst hA =>
  h _ _ (by rw [Nat.pow_succ]; omega) (by rw [Nat.pow_succ]; omega) (top_sub hs ht hst) hA
theorem low_top {l s : Nat} (hs : s < 2 ^ l) : s &&& (2 ^ l + s) = s := sub_iff.2 fun i hi => by
  rw [top_bit hs, if_pos (high_bit hs hi)]; exact hi
theorem UpS.step {l : Nat} {A : Nat → Bool} (h : UpS (l + 1) A) {s : Nat} (hs : s < 2 ^ l) (hA : A s = true) : A (2 ^ l + s) = true :=
  h _ _ (by rw [Nat.pow_succ]; omega) (by rw [Nat.pow_succ]; omega) (low_top hs) hA
theorem cross {a0 a1 b0 b1 : Nat} (ha : a0 ≤ a1) (hb : b0 ≤ b1) : a0 * b1 + a1 * b0 ≤ a0 * b0 + a1 * b1 := by
  obtain ⟨x, rfl⟩ : ∃ x, a1 = a0 + x := ⟨a1 - a0, by omega⟩
  obtain ⟨y, rfl⟩ : ∃ y, b1 = b0 + y := ⟨b1 - b0, by omega⟩
  simp only [Nat.mul_add, Nat.add_mul]
  omega
/-- Both are not less likely together. -/
theorem harris : ∀ (l : Nat) (A B : Nat → Bool), UpS l A → UpS l B → inAll l A * inAll l B ≤ inAll l (fun s => A s && B s) * 2 ^ l
  | 0, A, B, _, _ => by
    unfold inAll
    cases hA : A 0 <;> cases hB : B 0 <;> simp [hA, hB]
  | l + 1, A, B, hA, hB => by
    have h0 := harris l A B hA.low hB.low
    have h1 := harris l _ _ hA.high hB.high
    have ha := inAll_mono (l := l) (fun s hs h => hA.step hs h)
    have hb := inAll_mono (l := l) (fun s hs h => hB.step hs h)
    rw [inAll_top l A, inAll_top l B, inAll_top l (fun s => A s && B s), Nat.pow_succ]
    have hc := cross ha hb
    generalize inAll l A = a0 at *
    generalize inAll l B = b0 at *
    generalize inAll l (fun s => A (2 ^ l + s)) = a1 at *
    generalize inAll l (fun s => B (2 ^ l + s)) = b1 at *
    generalize inAll l (fun s => A s && B s) = c0 at *
    generalize inAll l (fun s => A (2 ^ l + s) && B (2 ^ l + s)) = c1 at *
    generalize 2 ^ l = P at *
    have e1 : (a0 + a1) * (b0 + b1) = a0 * b0 + a0 * b1 + (a1 * b0 + a1 * b1) := by simp only [Nat.mul_add, Nat.add_mul]; omega
    have e2 : (c0 + c1) * (P * 2) = 2 * (c0 * P) + 2 * (c1 * P) := by rw [← Nat.mul_assoc, Nat.add_mul, Nat.add_mul]; omega
    rw [e1, e2]
    omega

/-- By things of their own. -/
def apB (l : Nat) (A B : Nat → Bool) (s : Nat) : Bool := (List.range (2 ^ l)).any fun p => (List.range (2 ^ l)).any fun q => decide (p &&& q = 0 ∧ p &&& s = p ∧ q &&& s = q) && (A p && B q)
theorem apB_iff {l : Nat} {A B : Nat → Bool} {s : Nat} : apB l A B s = true ↔ ∃ p q, p < 2 ^ l ∧ q < 2 ^ l ∧ p &&& q = 0 ∧ p &&& s = p ∧ q &&& s = q ∧ A p = true ∧ B q = true := by
  unfold apB
  simp only [List.any_eq_true, List.mem_range, Bool.and_eq_true, decide_eq_true_eq]
  constructor
  · rintro ⟨p, hp, q, hq, ⟨h1, h2, h3⟩, h4, h5⟩; exact ⟨p, q, hp, hq, h1, h2, h3, h4, h5⟩
  · rintro ⟨p, q, hp, hq, h1, h2, h3, h4, h5⟩; exact ⟨p, hp, q, hq, ⟨h1, h2, h3⟩, h4, h5⟩
theorem sub_lt {l p s : Nat} (hs : s < 2 ^ l) (h : p &&& s = p) : p < 2 ^ l := by
  have := Nat.and_le_right (n := p) (m := s)
  omega
theorem split_top {l p : Nat} (hp : p < 2 ^ (l + 1)) : p < 2 ^ l ∨ ∃ p', p' < 2 ^ l ∧ p = 2 ^ l + p' := by
  rw [Nat.pow_succ] at hp
  rcases Nat.lt_or_ge p (2 ^ l) with h | h
  · exact .inl h
  · exact .inr ⟨p - 2 ^ l, by omega, by omega⟩
theorem top_low {l p s : Nat} (hp : p < 2 ^ l) (hs : s < 2 ^ l) : p &&& (2 ^ l + s) = p ↔ p &&& s = p := by
  rw [sub_iff, sub_iff]
  constructor
  · intro h i hi; have := h i hi; rwa [top_bit hs, if_pos (high_bit hp hi)] at this
  · intro h i hi; rw [top_bit hs, if_pos (high_bit hp hi)]; exact h i hi
theorem top_top {l p s : Nat} (hp : p < 2 ^ l) (hs : s < 2 ^ l) : (2 ^ l + p) &&& (2 ^ l + s) = 2 ^ l + p ↔ p &&& s = p := by
  constructor
  · intro h
    refine sub_iff.2 fun i hi => ?_
    have hil := high_bit hp hi
    have := sub_iff.1 h i (by rw [top_bit hp, if_pos hil]; exact hi)
    rwa [top_bit hs, if_pos hil] at this
  · exact top_sub hp hs
theorem top_disj {l p q : Nat} (hp : p < 2 ^ l) (hq : q < 2 ^ l) : (2 ^ l + p) &&& q = 0 ↔ p &&& q = 0 := by
  rw [disj_iff, disj_iff]
  constructor
  · intro h i hi
    exact h i (by rw [top_bit hp, if_pos (high_bit hp hi)]; exact hi)
  · intro h i hi
    rw [top_bit hp] at hi
    by_cases h1 : i < l
    · rw [if_pos h1] at hi; exact h i hi
    · exact Nat.testBit_lt_two_pow (Nat.lt_of_lt_of_le hq (Nat.pow_le_pow_right (by omega) (by omega)))
theorem top_both {l p q : Nat} (hp : p < 2 ^ l) (hq : q < 2 ^ l) : ¬ (2 ^ l + p) &&& (2 ^ l + q) = 0 := fun h => by
  have := disj_iff.1 h l (by rw [top_bit hp]; simp)
  rw [top_bit hq] at this; simp at this
theorem apB_low {l : Nat} {A B : Nat → Bool} {s : Nat} (hs : s < 2 ^ l) : apB (l + 1) A B s = apB l A B s := by
  rw [Bool.eq_iff_iff, apB_iff, apB_iff]
  constructor
  · rintro ⟨p, q, _, _, h1, h2, h3, h4, h5⟩; exact ⟨p, q, sub_lt hs h2, sub_lt hs h3, h1, h2, h3, h4, h5⟩
  · rintro ⟨p, q, hp, hq, h⟩; exact ⟨p, q, by rw [Nat.pow_succ]; omega, by rw [Nat.pow_succ]; omega, h⟩
theorem apB_high {l : Nat} {A B : Nat → Bool} (hA : UpS (l + 1) A) {s : Nat} (hs : s < 2 ^ l) (h : apB (l + 1) A B (2 ^ l + s) = true) :
    apB l (fun s => A (2 ^ l + s)) B s = true ∨ apB l A (fun s => B (2 ^ l + s)) s = true := by
  obtain ⟨p, q, hp, hq, h1, h2, h3, h4, h5⟩ := apB_iff.1 h
  rcases split_top hp with hp' | ⟨p', hp', rfl⟩
  · rcases split_top hq with hq' | ⟨q', hq', rfl⟩
    · exact .inl (apB_iff.2 ⟨p, q, hp', hq', h1, (top_low hp' hs).1 h2, (top_low hq' hs).1 h3, hA.step hp' h4, h5⟩)
    · rw [Nat.and_comm] at h1
      have h1' := (top_disj hq' hp').1 h1
      rw [Nat.and_comm] at h1'
      exact .inr (apB_iff.2 ⟨p, q', hp', hq', h1', (top_low hp' hs).1 h2, (top_top hq' hs).1 h3, h4, h5⟩)
  · rcases split_top hq with hq' | ⟨q', hq', rfl⟩
    · exact .inl (apB_iff.2 ⟨p', q, hp', hq', (top_disj hp' hq').1 h1, (top_top hp' hs).1 h2, (top_low hq' hs).1 h3, h4, h5⟩)
    · exact absurd h1 (top_both hp' hq')
/-- With things of their own both are not more likely. -/
theorem own_things : ∀ (l : Nat) (A B : Nat → Bool), UpS l A → UpS l B → inAll l (apB l A B) * 2 ^ l ≤ inAll l A * inAll l B
  | 0, A, B, _, _ => by
    unfold inAll
    have h : apB 0 A B 0 = (A 0 && B 0) := by simp [apB]
    cases hA : A 0 <;> cases hB : B 0 <;> simp [h, hA, hB]
  | l + 1, A, B, hA, hB => by
    have h0 := own_things l _ B hA.high hB.low
    have h1 := own_things l A _ hA.low hB.high
    have ha := inAll_mono (l := l) (fun s hs h => hA.step hs h)
    have hb := inAll_mono (l := l) (fun s hs h => hB.step hs h)
    have hc := cross ha hb
    have hr : inAll l (apB (l + 1) A B) + inAll l (fun s => apB (l + 1) A B (2 ^ l + s)) ≤ inAll l (apB l (fun s => A (2 ^ l + s)) B) + inAll l (apB l A (fun s => B (2 ^ l + s))) := by
      refine countP_sum_le _ fun s hs => ?_
      have hs' : s < 2 ^ l := by simpa using hs
      rw [apB_low hs']
      have hx : apB l A B s = true → apB l (fun s => A (2 ^ l + s)) B s = true := fun h => by
        obtain ⟨p, q, hp, hq, h1, h2, h3, h4, h5⟩ := apB_iff.1 h
        exact apB_iff.2 ⟨p, q, hp, hq, h1, h2, h3, hA.step hp h4, h5⟩
      have hy : apB l A B s = true → apB l A (fun s => B (2 ^ l + s)) s = true := fun h => by
        obtain ⟨p, q, hp, hq, h1, h2, h3, h4, h5⟩ := apB_iff.1 h
        exact apB_iff.2 ⟨p, q, hp, hq, h1, h2, h3, h4, hB.step hq h5⟩
      have hz := apB_high (B := B) hA hs'
      cases h0 : apB l A B s with
      | true =>
        rw [if_pos (hx h0), if_pos (hy h0)]
        split <;> split <;> omega
      | false =>
        cases h1 : apB (l + 1) A B (2 ^ l + s) with
        | false => simp
        | true =>
          rcases hz h1 with h2 | h2
          · rw [if_pos h2]; simp
          · rw [if_pos h2]; simp
    rw [inAll_top l (apB (l + 1) A B), inAll_top l A, inAll_top l B, Nat.pow_succ]
    generalize inAll l (apB (l + 1) A B) = r0 at *
    generalize inAll l (fun s => apB (l + 1) A B (2 ^ l + s)) = r1 at *
    generalize inAll l (apB l (fun s => A (2 ^ l + s)) B) = x at *
    generalize inAll l (apB l A (fun s => B (2 ^ l + s))) = y at *
    generalize inAll l A = a0 at *
    generalize inAll l B = b0 at *
    generalize inAll l (fun s => A (2 ^ l + s)) = a1 at *
    generalize inAll l (fun s => B (2 ^ l + s)) = b1 at *
    generalize 2 ^ l = P at *
    have e1 : (a0 + a1) * (b0 + b1) = a0 * b0 + a0 * b1 + (a1 * b0 + a1 * b1) := by simp only [Nat.mul_add, Nat.add_mul]; omega
    have e2 : (r0 + r1) * (P * 2) ≤ (x + y) * (P * 2) := Nat.mul_le_mul_right _ hr
    have e3 : (x + y) * (P * 2) = 2 * (x * P) + 2 * (y * P) := by rw [← Nat.mul_assoc, Nat.add_mul, Nat.add_mul]; omega
    rw [e1]
    omega
end Go.Proofs.Ytmdmmebekicpkaa

/- Plain facts on families of states told by their least states. -/
namespace Go.Proofs.Ytmdmmebekicpkaa
set_option maxRecDepth 100000

theorem rest_low {l s : Nat} (hs : s < 2 ^ l) : rest (l + 1) s = 2 ^ l + rest l s := by
  unfold rest; rw [Nat.pow_succ]; omega
theorem rest_high {l s : Nat} : rest (l + 1) (2 ^ l + s) = rest l s := by
  unfold rest; rw [Nat.pow_succ]; omega
/-- A family and what does not block it are all states. -/
theorem inAll_dual : ∀ (l : Nat) (A : Nat → Bool), inAll l A + inAll l (dual l A) = 2 ^ l
  | 0, A => by
    unfold inAll dual rest
    cases h : A 0 <;> simp [h]
  | l + 1, A => by
    have h0 := inAll_dual l A
    have h1 := inAll_dual l (fun s => A (2 ^ l + s))
    have e0 : inAll l (dual (l + 1) A) = inAll l (dual l (fun s => A (2 ^ l + s))) := List.countP_congr fun s hs => by
      have hs' : s < 2 ^ l := by simpa using hs
      unfold dual; rw [rest_low hs']
    have e1 : inAll l (fun s => dual (l + 1) A (2 ^ l + s)) = inAll l (dual l A) := List.countP_congr fun s _ => by
      unfold dual; rw [rest_high]
    rw [inAll_top l A, inAll_top l (dual (l + 1) A), e0, e1, Nat.pow_succ]
    omega
theorem inAll_sum {l : Nat} (A B : Nat → Bool) : inAll l (fun s => A s || B s) + inAll l (fun s => A s && B s) = inAll l A + inAll l B := by
  unfold inAll
  have h : ∀ xs : List Nat, xs.countP (fun s => A s || B s) + xs.countP (fun s => A s && B s) = xs.countP A + xs.countP B := fun xs => by
    induction xs with
    | nil => rfl
    | cons x xs ih =>
      simp only [List.countP_cons]
      cases A x <;> cases B x <;> simp <;> omega
  exact h _
/-- A family by a list: it has all of some set of it. -/
def famB (xs : List Nat) (s : Nat) : Bool := xs.any fun p => decide (p &&& s = p)
theorem famB_iff {xs : List Nat} {s : Nat} : famB xs s = true ↔ ∃ p ∈ xs, p &&& s = p := by
  unfold famB; simp [List.any_eq_true]
theorem famB_up (l : Nat) (xs : List Nat) : UpS l (famB xs) := fun s t _ _ hst h => by
  obtain ⟨p, hp, hps⟩ := famB_iff.1 h
  exact famB_iff.2 ⟨p, hp, sub_trans hps hst⟩
/-- Least states are enough. -/
theorem famB_least {l : Nat} {A : Nat → Bool} (hl : l ≤ 9) (hA : UpS l A) {s : Nat} (hs : s < 2 ^ l) : famB (leastL l A) s = A s := by
  rw [Bool.eq_iff_iff, famB_iff, least_in hl hA hs]
  constructor
  · rintro ⟨p, hp, h⟩; exact ⟨p, (mem_leastL.1 hp).1, (mem_leastL.1 hp).2, h⟩
  · rintro ⟨p, h1, h2, h⟩; exact ⟨p, mem_leastL.2 ⟨h1, h2⟩, h⟩
theorem leastB_congr {l : Nat} {A B : Nat → Bool} (h : ∀ s, s < 2 ^ l → A s = B s) {s : Nat} (hs : s < 2 ^ l) : leastB l A s = leastB l B s := by
  unfold leastB
  rw [h s hs]
  congr 1
  rw [Bool.eq_iff_iff, List.all_eq_true, List.all_eq_true]
  have e : ∀ k, A (s - 2 ^ k) = B (s - 2 ^ k) := fun k => h _ (Nat.lt_of_le_of_lt (Nat.sub_le _ _) hs)
  simp only [e]
theorem leastL_congr {l : Nat} {A B : Nat → Bool} (h : ∀ s, s < 2 ^ l → A s = B s) : leastL l A = leastL l B :=
  List.filter_congr fun s hs => leastB_congr h (by simpa using hs)
/-- Made from its least states it is the same. -/
theorem leastL_fam {l : Nat} {A : Nat → Bool} (hl : l ≤ 9) (hA : UpS l A) : leastL l (famB (leastL l A)) = leastL l A :=
  leastL_congr fun _ hs => famB_least hl hA hs
/-- What blocks: it has something in common with each. -/
def blockB (xs : List Nat) (s : Nat) : Bool := xs.all fun p => !decide (p &&& s = 0)
theorem block_dual {l : Nat} {A : Nat → Bool} (hl : l ≤ 9) (hA : UpS l A) {s : Nat} (hs : s < 2 ^ l) : blockB (leastL l A) s = dual l A s := by
  have hw := works_meets hl hA.dual hs
  rw [Bool.eq_iff_iff, hw]
  unfold blockB
  rw [List.all_eq_true]
  constructor
  · intro h c hc hlc
    have hlc' : leastB l A c = true := by
      rw [← leastB_congr (A := dual l (dual l A)) (fun t ht => dual_dual ht) hc]; exact hlc
    have := h c (mem_leastL.2 ⟨hc, hlc'⟩)
    simpa using this
  · intro h p hp
    obtain ⟨hp1, hp2⟩ := mem_leastL.1 hp
    have := h p hp1 (by rw [leastB_congr (A := dual l (dual l A)) (fun t ht => dual_dual ht) hp1]; exact hp2)
    simpa using this
/-- What blocks the blocker is the family. -/
theorem leastL_dual_dual {l : Nat} (A : Nat → Bool) : leastL l (dual l (dual l A)) = leastL l A := leastL_congr fun _ hs => dual_dual hs
/-- By things of their own, told by least states. -/
theorem apB_least {l : Nat} {A B : Nat → Bool} (hl : l ≤ 9) {s : Nat} :
    apB l A B s = true ↔ ∃ p ∈ leastL l A, ∃ q ∈ leastL l B, p &&& q = 0 ∧ (p ||| q) &&& s = (p ||| q) := by
  rw [apB_iff]
  constructor
  · rintro ⟨p, q, hp, hq, h1, h2, h3, h4, h5⟩
    obtain ⟨p', hp1, hp2, hp3⟩ := least_exists hl (p + 1) p (by omega) hp h4
    obtain ⟨q', hq1, hq2, hq3⟩ := least_exists hl (q + 1) q (by omega) hq h5
    refine ⟨p', mem_leastL.2 ⟨hp1, hp2⟩, q', mem_leastL.2 ⟨hq1, hq2⟩, disj_iff.2 fun i hi => ?_, sub_iff.2 fun i hi => ?_⟩
    · have h6 := disj_iff.1 h1 i (sub_iff.1 hp3 i hi)
      cases hb : q'.testBit i with
      | false => rfl
      | true => rw [sub_iff.1 hq3 i hb] at h6; cases h6
    · rw [Nat.testBit_or, Bool.or_eq_true] at hi
      rcases hi with hi | hi
      · exact sub_iff.1 (sub_trans hp3 h2) i hi
      · exact sub_iff.1 (sub_trans hq3 h3) i hi
  · rintro ⟨p, hp, q, hq, h1, h2⟩
    obtain ⟨hp1, hp2⟩ := mem_leastL.1 hp
    obtain ⟨hq1, hq2⟩ := mem_leastL.1 hq
    refine ⟨p, q, hp1, hq1, h1, sub_iff.2 fun i hi => ?_, sub_iff.2 fun i hi => ?_, (least_iff.1 hp2).1, (least_iff.1 hq2).1⟩
    · exact sub_iff.1 h2 i (by rw [Nat.testBit_or, hi]; rfl)
    · exact sub_iff.1 h2 i (by rw [Nat.testBit_or, hi, Bool.or_true])
end Go.Proofs.Ytmdmmebekicpkaa

/- Families: values of chapter 8's functions, and that a family is told by what it has. -/
namespace Go.Proofs.Ytmdmmebekicpkaa
set_option maxRecDepth 100000

/-- In range, ascending, none has all of another one. -/
structure OkN (T : Nat) (ns : List Nat) : Prop where
  lt : ∀ n ∈ ns, n < 2 ^ T
  asc : ns.Pairwise (· < ·)
  anti : ns.Pairwise fun p q => p &&& q ≠ p
theorem OkN.sub {T : Nat} {ns : List Nat} (h : OkN T ns) {p q : Nat} (hp : p ∈ ns) (hq : q ∈ ns) (hs : q &&& p = q) : q = p := by
  have key : ∀ (ns : List Nat), ns.Pairwise (· < ·) → ns.Pairwise (fun p q => p &&& q ≠ p) → p ∈ ns → q ∈ ns → q = p := fun ns => by
    induction ns with
    | nil => intro _ _ hp; simp at hp
    | cons x xs ih =>
      intro ha hn hp hq
      rw [List.pairwise_cons] at ha hn
      rcases List.mem_cons.1 hp with e1 | hp2
      · rcases List.mem_cons.1 hq with e2 | hq2
        · rw [e1, e2]
        · have h1 := ha.1 q hq2
          have h2 : q ≤ p := by rw [← hs]; exact Nat.and_le_right
          omega
      · rcases List.mem_cons.1 hq with e2 | hq2
        · subst e2; exact absurd hs (hn.1 p hp2)
        · exact ih ha.2 hn.2 hp2 hq2
  exact key ns h.asc h.anti hp hq
theorem sorted_same : ∀ {xs ys : List Nat}, xs.Pairwise (· < ·) → ys.Pairwise (· < ·) → (∀ x, x ∈ xs ↔ x ∈ ys) → xs = ys
  | [], [], _, _, _ => rfl
  | [], y :: ys, _, _, h => by have := (h y).2 (by simp); simp at this
  | x :: xs, [], _, _, h => by have := (h x).1 (by simp); simp at this
  | x :: xs, y :: ys, hx, hy, h => by
    rw [List.pairwise_cons] at hx hy
    have e : x = y := by
      rcases List.mem_cons.1 ((h x).1 (by simp)) with h1 | h1
      · exact h1
      · rcases List.mem_cons.1 ((h y).2 (by simp)) with h2 | h2
        · exact h2.symm
        · have := hx.1 y h2
          have := hy.1 x h1
          omega
    subst e
    rw [sorted_same hx.2 hy.2 fun z => ?_]
    have hz := h z
    constructor
    · intro hm
      rcases List.mem_cons.1 (hz.1 (List.mem_cons_of_mem _ hm)) with e | e
      · subst e; exact absurd (hx.1 z hm) (Nat.lt_irrefl _)
      · exact e
    · intro hm
      rcases List.mem_cons.1 (hz.2 (List.mem_cons_of_mem _ hm)) with e | e
      · subst e; exact absurd (hy.1 z hm) (Nat.lt_irrefl _)
      · exact e
/-- A family has just its least states. -/
theorem fam_canon {T : Nat} {ns : List Nat} (hT : T ≤ 9) (h : OkN T ns) : leastL T (famB ns) = ns := by
  refine sorted_same (leastL_sorted T _) h.asc fun p => ?_
  rw [mem_leastL, least_iff]
  constructor
  · rintro ⟨hp, hin, hno⟩
    obtain ⟨q, hq, hqp⟩ := famB_iff.1 hin
    by_cases e : q = p
    · subst e; exact hq
    · have : ∃ i, p.testBit i = true ∧ q.testBit i = false := Classical.byContradiction fun hn => e (sub_anti hqp (sub_iff.2 fun i hi => by
        cases hc : q.testBit i with
        | true => rfl
        | false => exact absurd ⟨i, hi, hc⟩ hn))
      obtain ⟨i, hi, hqi⟩ := this
      have h1 := hno i (high_bit hp hi) hi
      have h2 : famB ns (p - 2 ^ i) = true := famB_iff.2 ⟨q, hq, sub_iff.2 fun j hj => by
        rw [(less_bits hT hp hi).2 j, sub_iff.1 hqp j hj]
        have : j ≠ i := fun e => by rw [e, hqi] at hj; cases hj
        simp [this]⟩
      rw [h1] at h2; cases h2
  · intro hp
    have hlt := h.lt p hp
    refine ⟨hlt, famB_iff.2 ⟨p, hp, Nat.and_self p⟩, fun k hk hb => ?_⟩
    cases hc : famB ns (p - 2 ^ k) with
    | false => rfl
    | true =>
      obtain ⟨q, hq, hqs⟩ := famB_iff.1 hc
      have hqp := sub_trans hqs (less_sub hT hlt hb)
      have e := h.sub hp hq hqp
      subst e
      have := sub_iff.1 hqs k hb
      rw [(less_bits hT hlt hb).2 k] at this
      simp at this
theorem leastL_ok {T : Nat} {A : Nat → Bool} (hT : T ≤ 9) (hA : UpS T A) : OkN T (leastL T A) := by
  refine ⟨fun n hn => (mem_leastL.1 hn).1, leastL_sorted T A, ?_⟩
  have hs := leastL_sorted T A
  have hm : ∀ n ∈ leastL T A, n < 2 ^ T ∧ leastB T A n = true := fun n hn => mem_leastL.1 hn
  revert hs hm
  generalize leastL T A = xs
  intro hs hm
  induction xs with
  | nil => exact List.Pairwise.nil
  | cons x xs ih =>
    rw [List.pairwise_cons] at hs ⊢
    refine ⟨fun y hy e => ?_, ih hs.2 fun n hn => hm n (List.mem_cons_of_mem _ hn)⟩
    have h1 := hs.1 y hy
    obtain ⟨a1, a2⟩ := hm x (by simp)
    obtain ⟨b1, b2⟩ := hm y (List.mem_cons_of_mem _ hy)
    have := least_anti hT hA a1 b1 a2 b2 e
    omega
/-- Two families of as many things that have the same states are the same. -/
theorem fam_same {T : Nat} {ns ms : List Nat} (hT : T ≤ 9) (hn : OkN T ns) (hm : OkN T ms) (h : ∀ s, s < 2 ^ T → famB ns s = famB ms s) : ns = ms := by
  rw [← fam_canon hT hn, ← fam_canon hT hm]
  exact leastL_congr h
theorem okN_nil (T : Nat) : OkN T [] := ⟨fun _ h => by simp at h, List.Pairwise.nil, List.Pairwise.nil⟩
theorem okN_zero (T : Nat) : OkN T [0] := ⟨fun n h => by simp at h; subst h; exact Nat.two_pow_pos T, by simp, by simp⟩

/-- Whether the k-th of a list fits behind those before it. -/
def elemOk (T : Nat) (xs : List Int) (k : Nat) : Bool :=
  (decide (0 ≤ xs.getD k 0) && decide (xs.getD k 0 ≤ (2 ^ T : Nat) - 1)) && ((decide (k = 0) || decide (xs.getD (k - 1) 0 < xs.getD k 0)) && (List.range k).all fun j => !decide ((xs.getD j 0).toNat &&& (xs.getD k 0).toNat = (xs.getD j 0).toNat))
def stepOk (T : Nat) (xs : List Int) : Nat → Bool
  | 0 => true
  | k + 1 => stepOk T xs k && elemOk T xs k
def famOkB (t : Int) (xs : List Int) : Bool := (decide (0 ≤ t) && decide (t ≤ 6)) && stepOk t.toNat xs xs.length
theorem stepOk_iff {T : Nat} {xs : List Int} : ∀ k, stepOk T xs k = true ↔ ∀ j, j < k → elemOk T xs j = true
  | 0 => by simp [stepOk]
  | k + 1 => by
    rw [stepOk, Bool.and_eq_true, stepOk_iff k]
    constructor
    · rintro ⟨h1, h2⟩ j hj
      by_cases e : j = k
      · subst e; exact h2
      · exact h1 j (by omega)
    · intro h; exact ⟨fun j hj => h j (by omega), h k (by omega)⟩

theorem okN_snoc {T : Nat} {ns : List Nat} {p : Nat} (h : OkN T ns) (h1 : p < 2 ^ T) (h2 : ∀ q ∈ ns, q < p) (h3 : ∀ q ∈ ns, q &&& p ≠ q) : OkN T (ns ++ [p]) := by
  refine ⟨fun n hn => ?_, ?_, ?_⟩
  · rcases List.mem_append.1 hn with hn | hn
    · exact h.lt n hn
    · simp at hn; subst hn; exact h1
  · rw [List.pairwise_append]
    exact ⟨h.asc, by simp, fun a ha b hb => by simp at hb; subst hb; exact h2 a ha⟩
  · rw [List.pairwise_append]
    exact ⟨h.anti, by simp, fun a ha b hb => by simp at hb; subst hb; exact h3 a ha⟩
theorem OkN.take {T : Nat} {ns : List Nat} (h : OkN T ns) (k : Nat) : OkN T (ns.take k) :=
  ⟨fun n hn => h.lt n (List.mem_of_mem_take hn), h.asc.sublist (List.take_sublist k ns), h.anti.sublist (List.take_sublist k ns)⟩
/-- A family's list, as far as it has been looked through. -/
theorem step_take {T : Nat} {xs : List Int} : ∀ k, k ≤ xs.length → (stepOk T xs k = true ↔ ∃ ns, xs.take k = natI ns ∧ OkN T ns)
  | 0, _ => by
    simp only [stepOk, List.take_zero, true_iff]
    exact ⟨[], rfl, okN_nil T⟩
  | k + 1, hk => by
    have hk1 : k < xs.length := by omega
    have htake : xs.take (k + 1) = xs.take k ++ [xs.getD k 0] := by
      rw [List.take_add_one]; simp [List.getD, hk1]
    rw [stepOk, Bool.and_eq_true, step_take k (by omega)]
    constructor
    · rintro ⟨⟨ns, h1, h2⟩, h3⟩
      have hlen : ns.length = k := by
        have := congrArg List.length h1
        rw [List.length_take, natI_length] at this; omega
      have hget : ∀ j, j < k → xs.getD j 0 = ((ns.getD j 0 : Nat) : Int) := fun j hj => by
        rw [← natI_getD, ← h1]; simp [List.getD, hj]
      simp only [elemOk, Bool.and_eq_true, Bool.or_eq_true, decide_eq_true_eq, List.all_eq_true, List.mem_range, Bool.not_eq_true', decide_eq_false_iff_not] at h3
      obtain ⟨⟨a1, a2⟩, a3, a4⟩ := h3
      obtain ⟨p, hp⟩ : ∃ p : Nat, xs.getD k 0 = p := ⟨(xs.getD k 0).toNat, by omega⟩
      rw [hp] at a2 a4 a3
      have hp2 : p < 2 ^ T := by have := Nat.two_pow_pos T; omega
      refine ⟨ns ++ [p], by rw [htake, h1, hp, natI_append]; rfl, okN_snoc h2 hp2 (fun q hq => ?_) fun q hq => ?_⟩
      · obtain ⟨j, hj, e⟩ := List.getElem_of_mem hq
        have hjk : j < k := by omega
        rcases a3 with a3 | a3
        · omega
        · rw [hget (k - 1) (by omega)] at a3
          by_cases e2 : j = k - 1
          · have : ns.getD (k - 1) 0 = q := by rw [← e2, ← e]; simp [List.getD, hj]
            omega
          · have h5 := List.pairwise_iff_getElem.1 h2.asc j (k - 1) hj (by omega) (by omega)
            have e3 : ns.getD (k - 1) 0 = ns[k - 1]'(by omega) := by simp [List.getD, show k - 1 < ns.length by omega]
            omega
      · obtain ⟨j, hj, e⟩ := List.getElem_of_mem hq
        have h5 := a4 j (by omega)
        rw [hget j (by omega)] at h5
        have e3 : ns.getD j 0 = q := by rw [← e]; simp [List.getD, hj]
        rw [e3] at h5
        exact h5
    · rintro ⟨ns, h1, h2⟩
      have hlen : ns.length = k + 1 := by
        have := congrArg List.length h1
        rw [List.length_take, natI_length] at this; omega
      have hget : ∀ j, j < k + 1 → xs.getD j 0 = ((ns.getD j 0 : Nat) : Int) := fun j hj => by
        rw [← natI_getD, ← h1]; simp [List.getD, hj]
      have hN : ∀ j, (hj : j < ns.length) → ns.getD j 0 = ns[j] := fun j hj => by simp [List.getD, hj]
      refine ⟨⟨ns.take k, ?_, h2.take k⟩, ?_⟩
      · have := congrArg (List.take k) h1
        rw [List.take_take, Nat.min_eq_left (by omega)] at this
        rw [this]; simp [natI, List.map_take]
      · simp only [elemOk, Bool.and_eq_true, Bool.or_eq_true, decide_eq_true_eq, List.all_eq_true, List.mem_range, Bool.not_eq_true', decide_eq_false_iff_not]
        rw [hget k (by omega)]
        have hpk := h2.lt (ns.getD k 0) (by rw [hN k (by omega)]; exact List.getElem_mem _)
        refine ⟨⟨by omega, by omega⟩, ?_, fun j hj => ?_⟩
        · by_cases e : k = 0
          · exact .inl e
          · right
            rw [hget (k - 1) (by omega), hN (k - 1) (by omega), hN k (by omega)]
            have := List.pairwise_iff_getElem.1 h2.asc (k - 1) k (by omega) (by omega) (by omega)
            omega
        · rw [hget j (by omega), hN j (by omega), hN k (by omega)]
          exact List.pairwise_iff_getElem.1 h2.anti j k (by omega) (by omega) hj
/-- What a family is. -/
theorem famOkB_iff {t : Int} {xs : List Int} : famOkB t xs = true ↔ ∃ (T : Nat) (ns : List Nat), t = T ∧ T ≤ 6 ∧ xs = natI ns ∧ OkN T ns := by
  unfold famOkB
  rw [Bool.and_eq_true, Bool.and_eq_true, decide_eq_true_eq, decide_eq_true_eq, step_take _ (Nat.le_refl _), List.take_length]
  constructor
  · rintro ⟨⟨h1, h2⟩, ns, h3, h4⟩
    exact ⟨t.toNat, ns, by omega, by omega, h3, h4⟩
  · rintro ⟨T, ns, rfl, h1, h2, h3⟩
    exact ⟨⟨by omega, by omega⟩, ns, h2, h3⟩
end Go.Proofs.Ytmdmmebekicpkaa

/- Families: what the laws of chapter 8 ask. -/
namespace Go.Proofs.Ytmdmmebekicpkaa
set_option maxRecDepth 100000

def famAnd (T : Nat) (ns ms : List Nat) : List Nat := leastL T (fun s => famB ns s && famB ms s)
def famOr (T : Nat) (ns ms : List Nat) : List Nat := leastL T (fun s => famB ns s || famB ms s)
def famAp (T : Nat) (ns ms : List Nat) : List Nat := leastL T (apB T (famB ns) (famB ms))
def famBl (T : Nat) (ns : List Nat) : List Nat := leastL T (dual T (famB ns))
def famOf (T : Nat) (ls : List Nat) : List Nat := leastL T (famB ls)
theorem up_and {T : Nat} {A B : Nat → Bool} (hA : UpS T A) (hB : UpS T B) : UpS T (fun s => A s && B s) := fun s t hs ht hst h => by
  simp only [Bool.and_eq_true] at h ⊢
  exact ⟨hA s t hs ht hst h.1, hB s t hs ht hst h.2⟩
theorem up_or {T : Nat} {A B : Nat → Bool} (hA : UpS T A) (hB : UpS T B) : UpS T (fun s => A s || B s) := fun s t hs ht hst h => by
  simp only [Bool.or_eq_true] at h ⊢
  exact h.imp (hA s t hs ht hst) (hB s t hs ht hst)
theorem up_ap {T : Nat} {A B : Nat → Bool} : UpS T (apB T A B) := fun s t _ _ hst h => by
  obtain ⟨p, q, h1, h2, h3, h4, h5, h6, h7⟩ := apB_iff.1 h
  exact apB_iff.2 ⟨p, q, h1, h2, h3, sub_trans h4 hst, sub_trans h5 hst, h6, h7⟩
theorem famAnd_ok (T : Nat) (hT : T ≤ 9) (ns ms : List Nat) : OkN T (famAnd T ns ms) := leastL_ok hT (up_and (famB_up T ns) (famB_up T ms))
theorem famOr_ok (T : Nat) (hT : T ≤ 9) (ns ms : List Nat) : OkN T (famOr T ns ms) := leastL_ok hT (up_or (famB_up T ns) (famB_up T ms))
theorem famAp_ok (T : Nat) (hT : T ≤ 9) (ns ms : List Nat) : OkN T (famAp T ns ms) := leastL_ok hT up_ap
theorem famBl_ok (T : Nat) (hT : T ≤ 9) (ns : List Nat) : OkN T (famBl T ns) := leastL_ok hT (famB_up T ns).dual
theorem famOf_ok (T : Nat) (hT : T ≤ 9) (ls : List Nat) : OkN T (famOf T ls) := leastL_ok hT (famB_up T ls)
theorem famAnd_in {T : Nat} (hT : T ≤ 9) (ns ms : List Nat) {s : Nat} (hs : s < 2 ^ T) : famB (famAnd T ns ms) s = (famB ns s && famB ms s) := famB_least hT (up_and (famB_up T ns) (famB_up T ms)) hs
theorem famOr_in {T : Nat} (hT : T ≤ 9) (ns ms : List Nat) {s : Nat} (hs : s < 2 ^ T) : famB (famOr T ns ms) s = (famB ns s || famB ms s) := famB_least hT (up_or (famB_up T ns) (famB_up T ms)) hs
theorem famAp_in {T : Nat} (hT : T ≤ 9) (ns ms : List Nat) {s : Nat} (hs : s < 2 ^ T) : famB (famAp T ns ms) s = apB T (famB ns) (famB ms) s := famB_least hT up_ap hs
theorem famBl_in {T : Nat} (hT : T ≤ 9) (ns : List Nat) {s : Nat} (hs : s < 2 ^ T) : famB (famBl T ns) s = !famB ns (rest T s) := famB_least hT (famB_up T ns).dual hs
theorem famOf_in {T : Nat} (hT : T ≤ 9) (ls : List Nat) {s : Nat} (hs : s < 2 ^ T) : famB (famOf T ls) s = famB ls s := famB_least hT (famB_up T ls) hs
/-- How many states a family has. -/
def famN (T : Nat) (ns : List Nat) : Nat := inAll T (famB ns)
theorem inAll_congr {T : Nat} {A B : Nat → Bool} (h : ∀ s, s < 2 ^ T → A s = B s) : inAll T A = inAll T B :=
  Nat.le_antisymm (inAll_mono fun s hs ha => by rw [← h s hs]; exact ha) (inAll_mono fun s hs ha => by rw [h s hs]; exact ha)
theorem famN_le (T : Nat) (ns : List Nat) : famN T ns ≤ 2 ^ T := by
  have := List.countP_le_length (p := famB ns) (l := List.range (2 ^ T))
  rwa [List.length_range] at this
/-- A family and its blocker have all states. -/
theorem famN_block {T : Nat} (hT : T ≤ 9) (ns : List Nat) : famN T ns + famN T (famBl T ns) = 2 ^ T := by
  rw [show famN T (famBl T ns) = inAll T (dual T (famB ns)) from inAll_congr fun _ hs => by rw [famBl_in hT ns hs]; rfl]
  exact inAll_dual T (famB ns)
theorem famN_zero {T : Nat} {ns : List Nat} (h : OkN T ns) : decide (famN T ns = 0) = decide (ns.length = 0) := by
  rw [Bool.eq_iff_iff, decide_eq_true_eq, decide_eq_true_eq, List.length_eq_zero_iff]
  constructor
  · intro h0
    cases ns with
    | nil => rfl
    | cons p ps =>
      have hp := h.lt p (by simp)
      have : 0 < famN T (p :: ps) := List.countP_pos_iff.2 ⟨p, by simpa using hp, famB_iff.2 ⟨p, by simp, Nat.and_self p⟩⟩
      omega
  · rintro rfl
    exact List.countP_eq_zero.2 fun x _ => by simp [famB]
theorem block_block {T : Nat} (hT : T ≤ 9) {ns : List Nat} (h : OkN T ns) : famBl T (famBl T ns) = ns :=
  fam_same hT (famBl_ok T hT _) h fun s hs => by
    rw [famBl_in hT _ hs, famBl_in hT _ (rest_lt T s), rest_rest hs, Bool.not_not]
theorem famAnd_swap (T : Nat) (ns ms : List Nat) : famAnd T ms ns = famAnd T ns ms := leastL_congr fun _ _ => Bool.and_comm _ _
theorem famAnd_more {T : Nat} (hT : T ≤ 9) (ns ms : List Nat) : famN T ns * famN T ms ≤ famN T (famAnd T ns ms) * 2 ^ T := by
  rw [show famN T (famAnd T ns ms) = inAll T (fun s => famB ns s && famB ms s) from inAll_congr fun s hs => famAnd_in hT ns ms hs]
  exact harris T _ _ (famB_up T ns) (famB_up T ms)
theorem famOr_block {T : Nat} (hT : T ≤ 9) (ns ms : List Nat) : famBl T (famOr T ns ms) = famAnd T (famBl T ns) (famBl T ms) :=
  fam_same hT (famBl_ok T hT _) (famAnd_ok T hT _ _) fun s hs => by
    rw [famBl_in hT _ hs, famAnd_in hT _ _ hs, famBl_in hT _ hs, famBl_in hT _ hs, famOr_in hT _ _ (rest_lt T s), Bool.not_or]
theorem famOr_sum {T : Nat} (hT : T ≤ 9) (ns ms : List Nat) : famN T (famOr T ns ms) + famN T (famAnd T ns ms) = famN T ns + famN T ms := by
  rw [show famN T (famAnd T ns ms) = inAll T (fun s => famB ns s && famB ms s) from inAll_congr fun s hs => famAnd_in hT ns ms hs,
    show famN T (famOr T ns ms) = inAll T (fun s => famB ns s || famB ms s) from inAll_congr fun s hs => famOr_in hT ns ms hs]
  exact inAll_sum _ _
theorem apB_swap (T : Nat) (A B : Nat → Bool) (s : Nat) : apB T B A s = apB T A B s := by
  rw [Bool.eq_iff_iff, apB_iff, apB_iff]
  constructor
  · rintro ⟨p, q, h1, h2, h3, h4, h5, h6, h7⟩; exact ⟨q, p, h2, h1, by rw [Nat.and_comm]; exact h3, h5, h4, h7, h6⟩
  · rintro ⟨p, q, h1, h2, h3, h4, h5, h6, h7⟩; exact ⟨q, p, h2, h1, by rw [Nat.and_comm]; exact h3, h5, h4, h7, h6⟩
theorem famAp_swap (T : Nat) (ns ms : List Nat) : famAp T ms ns = famAp T ns ms := leastL_congr fun s _ => apB_swap T _ _ s
theorem famAp_less {T : Nat} (hT : T ≤ 9) (ns ms : List Nat) : famN T (famAp T ns ms) * 2 ^ T ≤ famN T ns * famN T ms := by
  rw [show famN T (famAp T ns ms) = inAll T (apB T (famB ns) (famB ms)) from inAll_congr fun s hs => famAp_in hT ns ms hs]
  exact own_things T _ _ (famB_up T ns) (famB_up T ms)
/-- What is had by things of their own is in both. -/
theorem famAp_both {T : Nat} (hT : T ≤ 9) {ns ms : List Nat} {p : Nat} (hp : p ∈ famAp T ns ms) : p < 2 ^ T ∧ famB (famAnd T ns ms) p = true := by
  obtain ⟨h1, h2⟩ := mem_leastL.1 hp
  refine ⟨h1, ?_⟩
  rw [famAnd_in hT ns ms h1, Bool.and_eq_true]
  obtain ⟨a, b, a1, b1, -, a2, b2, a3, b3⟩ := apB_iff.1 (least_iff.1 h2).1
  exact ⟨famB_up T ns a p a1 h1 a2 a3, famB_up T ms b p b1 h1 b2 b3⟩
/-- Each least state is one of the list. -/
theorem famOf_mem {T : Nat} (hT : T ≤ 9) {ls : List Nat} {p : Nat} (hp : p ∈ famOf T ls) : p ∈ ls := by
  obtain ⟨h1, h2⟩ := mem_leastL.1 hp
  obtain ⟨hin, hno⟩ := least_iff.1 h2
  obtain ⟨q, hq, hqp⟩ := famB_iff.1 hin
  by_cases e : q = p
  · subst e; exact hq
  · have : ∃ i, p.testBit i = true ∧ q.testBit i = false := Classical.byContradiction fun hn => e (sub_anti hqp (sub_iff.2 fun i hi => by
      cases hc : q.testBit i with
      | true => rfl
      | false => exact absurd ⟨i, hi, hc⟩ hn))
    obtain ⟨i, hi, hqi⟩ := this
    have h3 := hno i (high_bit h1 hi) hi
    have h4 : famB ls (p - 2 ^ i) = true := famB_iff.2 ⟨q, hq, sub_iff.2 fun j hj => by
      rw [(less_bits hT h1 hi).2 j, sub_iff.1 hqp j hj]
      have : j ≠ i := fun e => by rw [e, hqi] at hj; cases hj
      simp [this]⟩
    rw [h3] at h4; cases h4
theorem famOf_again {T : Nat} (hT : T ≤ 9) (ls : List Nat) : famOf T (famOf T ls) = famOf T ls := leastL_fam hT (famB_up T ls)
theorem famOf_has {T : Nat} (hT : T ≤ 9) {ls : List Nat} {x : Nat} (hx : x ∈ ls) (hl : x < 2 ^ T) : famB (famOf T ls) x = true := by
  rw [famOf_in hT ls hl]; exact famB_iff.2 ⟨x, hx, Nat.and_self x⟩
/-- Each least state is in it; without any of its things it is not. -/
theorem least_has {ns : List Nat} {p : Nat} (hp : p ∈ ns) : famB ns p = true := famB_iff.2 ⟨p, hp, Nat.and_self p⟩
theorem least_not {T : Nat} (hT : T ≤ 9) {ns : List Nat} (h : OkN T ns) {p k : Nat} (hp : p ∈ ns) (hk : p.testBit k = true) : famB ns (p - 2 ^ k) = false := by
  have e := fam_canon hT h
  have hp' : p ∈ leastL T (famB ns) := by rw [e]; exact hp
  obtain ⟨h1, h2⟩ := mem_leastL.1 hp'
  exact (least_iff.1 h2).2 k (high_bit h1 hk) hk
theorem more_has {T : Nat} {ns : List Nat} {s k : Nat} (hs : s < 2 ^ T) (hk : k < T) (h : famB ns s = true) : famB ns (s ||| 2 ^ k) = true :=
  famB_up T ns s (s ||| 2 ^ k) hs (Nat.or_lt_two_pow hs (Nat.pow_lt_pow_right (by omega) hk)) (sub_iff.2 fun i hi => by rw [Nat.testBit_or, hi]; rfl) h
end Go.Proofs.Ytmdmmebekicpkaa

/- Families by their states, in order: a state that has no least state before it. -/
namespace Go.Proofs.Ytmdmmebekicpkaa

theorem mem_leastK {l : Nat} {J : Nat → Bool} {k p : Nat} : p ∈ leastK l J k ↔ p < k ∧ leastB l J p = true := by
  unfold leastK; rw [List.mem_filter, List.mem_range]
theorem leastB_has {l : Nat} {J : Nat → Bool} {s : Nat} (h : leastB l J s = true) : J s = true := (least_iff.1 h).1
/-- A state has a least state before it just if it is in the family and not itself a least one. -/
theorem leastK_in {T : Nat} {A : Nat → Bool} (hT : T ≤ 9) (hA : UpS T A) {s : Nat} (hs : s < 2 ^ T) : famB (leastK T A s) s = (A s && !leastB T A s) := by
  have hok := leastL_ok hT hA
  rw [Bool.eq_iff_iff, Bool.and_eq_true, Bool.not_eq_true', famB_iff]
  constructor
  · rintro ⟨q, hq, hqs⟩
    obtain ⟨h1, h2⟩ := mem_leastK.1 hq
    have hq2 : q < 2 ^ T := by omega
    refine ⟨hA q s hq2 hs hqs (leastB_has h2), ?_⟩
    cases hc : leastB T A s with
    | false => rfl
    | true =>
      have := hok.sub (mem_leastL.2 ⟨hs, hc⟩) (mem_leastL.2 ⟨hq2, h2⟩) hqs
      omega
  · rintro ⟨h1, h2⟩
    have h3 := famB_least hT hA hs
    rw [h1] at h3
    obtain ⟨q, hq, hqs⟩ := famB_iff.1 h3
    obtain ⟨h4, h5⟩ := mem_leastL.1 hq
    have h6 : q ≤ s := by rw [← hqs]; exact Nat.and_le_right
    have h7 : q ≠ s := fun e => by subst e; rw [h2] at h5; cases h5
    exact ⟨q, mem_leastK.2 ⟨by omega, h5⟩, hqs⟩
/-- What is worked on at a state: it is taken just if it is a least one. -/
theorem leastK_take {T : Nat} {A : Nat → Bool} (hT : T ≤ 9) (hA : UpS T A) {s : Nat} (hs : s < 2 ^ T) : (A s && !famB (leastK T A s) s) = leastB T A s := by
  rw [leastK_in hT hA hs]
  have h : leastB T A s = true → A s = true := leastB_has
  cases hl : leastB T A s <;> cases ha : A s <;> simp_all
end Go.Proofs.Ytmdmmebekicpkaa

/- The family of paths: cuts block it; it has as many states as join both. -/
namespace Go.Proofs.Ytmdmmebekicpkaa
set_option maxRecDepth 100000

theorem joinS_at {n : Int} {es : List (Int × Int)} {a b : Int} (h : joinOkB n es a b = true) {t : Nat} (ht : t < 2 ^ es.length) : joinedB n es t a b = joinS es a.toNat b.toNat t := by
  have h' := joinOkB_iff.1 h
  have := joinS_is h'.1 (a := a.toNat) (b := b.toNat) (by omega) (by omega) ht
  rwa [show ((a.toNat : Nat) : Int) = a by omega, show ((b.toNat : Nat) : Int) = b by omega] at this
theorem path_ok {n : Int} {es : List (Int × Int)} {a b : Int} (h : joinOkB n es a b = true) : OkN es.length (pathsN n es a b) := by
  have hn := (joinOkB_iff.1 h).1
  unfold pathsN
  rw [if_pos h]
  exact leastL_ok (netOkB_iff.1 hn).2.1 (joinS_up hn _ _)
theorem path_in {n : Int} {es : List (Int × Int)} {a b : Int} (h : joinOkB n es a b = true) {s : Nat} (hs : s < 2 ^ es.length) : famB (pathsN n es a b) s = joinS es a.toNat b.toNat s := by
  have hn := (joinOkB_iff.1 h).1
  unfold pathsN
  rw [if_pos h]
  exact famB_least (netOkB_iff.1 hn).2.1 (joinS_up hn _ _) hs
/-- Its blocker has just the cuts for least states. -/
theorem path_block {n : Int} {es : List (Int × Int)} {a b : Int} (h : joinOkB n es a b = true) : famBl es.length (pathsN n es a b) = cutsN n es a b := by
  unfold famBl cutsN
  rw [if_pos h]
  exact leastL_congr fun s _ => by
    unfold dual
    rw [path_in h (rest_lt _ s)]
theorem sum_by {Q : Nat → Bool} {m : Nat} : ∀ l : List Nat, (∀ s ∈ l, pop s < m) → sumN (fun k => l.countP (fun s => Q s && decide (pop s = k))) m = l.countP Q
  | [], _ => by
    have : ∀ m, sumN (fun _ => 0) m = 0 := fun m => by
      induction m with
      | zero => rfl
      | succ m ih => rw [sumN, ih]
    simpa using this m
  | x :: l, h => by
    have ih := sum_by (Q := Q) (m := m) l (fun s hs => h s (by simp [hs]))
    have hx := h x (by simp)
    have h1 : sumN (fun k => (x :: l).countP (fun s => Q s && decide (pop s = k))) m = sumN (fun k => l.countP (fun s => Q s && decide (pop s = k))) m + sumN (fun k => if Q x = true ∧ pop x = k then 1 else 0) m := by
      rw [← sumN_add]
      refine sumN_congr _ fun k _ => ?_
      rw [List.countP_cons]
      congr 1
      by_cases hq : Q x = true ∧ pop x = k
      · rw [if_pos hq]; simp [hq.1, hq.2]
      · rw [if_neg hq, if_neg]
        intro hh
        rw [Bool.and_eq_true, decide_eq_true_eq] at hh
        exact hq hh
    have h2 : ∀ m, sumN (fun k => if Q x = true ∧ pop x = k then 1 else 0) m = if Q x = true ∧ pop x < m then 1 else 0 := fun m => by
      induction m with
      | zero => simp [sumN]
      | succ m ih =>
        rw [sumN, ih]
        generalize pop x = v at *
        by_cases hq : Q x = true
        · simp only [hq, true_and]
          split <;> split <;> split <;> omega
        · simp [hq]
    rw [h1, h2, ih, List.countP_cons]
    congr 1
    by_cases hq : Q x = true
    · rw [if_pos ⟨hq, hx⟩, if_pos hq]
    · rw [if_neg (fun e => hq e.1), if_neg hq]
/-- There are as many states as the counts of states that join both, together. -/
theorem path_count {n : Int} {es : List (Int × Int)} {a b : Int} (h : joinOkB n es a b = true) : famN es.length (pathsN n es a b) = sumN (fun k => joinC es a.toNat b.toNat k) (es.length + 1) := by
  obtain ⟨hn, ha, hb, -⟩ := joinOkB_iff.1 h
  have h9 := (netOkB_iff.1 hn).2.1
  rw [show famN es.length (pathsN n es a b) = inAll es.length (fun s => joinedB n es s ((a.toNat : Nat) : Int) ((b.toNat : Nat) : Int)) from inAll_congr fun s hs => by
    rw [path_in h hs, show ((a.toNat : Nat) : Int) = a by omega, show ((b.toNat : Nat) : Int) = b by omega, joinS_at h hs]]
  unfold inAll
  rw [← sum_by (Q := fun s : Nat => joinedB n es s ((a.toNat : Nat) : Int) ((b.toNat : Nat) : Int)) (m := es.length + 1) (List.range (2 ^ es.length)) fun s hs => by
    have := pop_low (show s < 2 ^ es.length by simpa using hs) h9
    omega]
  exact sumN_congr _ fun k _ => join_states hn (by omega) (by omega) k
end Go.Proofs.Ytmdmmebekicpkaa
