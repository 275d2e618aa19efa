/- Plain facts on pieces: functions that give each node one that stands for its piece, how many nodes stand for themselves, and what a further edge does to that. -/
import Derived.Test.YtdacfeebidhgnaaEd
namespace Go.Proofs.Ytdacfeebidhgnaa
set_option maxRecDepth 100000

/-- How many of 1..n stand for themselves. -/
def cnt (R : Nat → Nat) : Nat → Nat
  | 0 => 0
  | n + 1 => cnt R n + if R (n + 1) = n + 1 then 1 else 0
def glue (R : Nat → Nat) (a b : Nat) (x : Nat) : Nat := if R x = R b then R a else R x

/-- R tells the pieces of the first k edges E, of those that T has, among n nodes. -/
structure Rep (E : Nat → Nat × Nat) (T : Nat → Bool) (k n : Nat) (R : Nat → Nat) : Prop where
  idem : ∀ x, R (R x) = R x
  joins : ∀ i, i < k → T i = true → R (E i).1 = R (E i).2
  least : ∀ F : Nat → Nat, (∀ i, i < k → T i = true → F (E i).1 = F (E i).2) → ∀ x, F (R x) = F x
  range : ∀ x, 1 ≤ x → x ≤ n → 1 ≤ R x ∧ R x ≤ n

theorem Rep.start (E : Nat → Nat × Nat) (T : Nat → Bool) (n : Nat) {R : Nat → Nat} (h : ∀ x, R x = x) : Rep E T 0 n R :=
  ⟨fun x => by rw [h, h], fun i h => by omega, fun F _ x => by rw [h], fun x h1 h2 => by rw [h]; exact ⟨h1, h2⟩⟩
theorem Rep.skip {E : Nat → Nat × Nat} {T : Nat → Bool} {k n : Nat} {R : Nat → Nat} (h : Rep E T k n R) (hk : T k = false) : Rep E T (k + 1) n R := by
  refine ⟨h.idem, ?_, ?_, h.range⟩
  · intro i hi ht
    by_cases hik : i = k
    · subst hik; rw [hk] at ht; cases ht
    · exact h.joins i (by omega) ht
  · intro F hF x
    exact h.least F (fun i hi ht => hF i (by omega) ht) x
theorem glue_idem {R : Nat → Nat} (h : ∀ x, R (R x) = R x) (a b x : Nat) : glue R a b (glue R a b x) = glue R a b x := by
  unfold glue
  by_cases h1 : R x = R b
  · simp only [h1, if_true, h]; split <;> rfl
  · simp only [h1, if_false, h]
theorem glue_self (R : Nat → Nat) (a b : Nat) : glue R a b a = R a := by unfold glue; split <;> rfl
theorem glue_other (R : Nat → Nat) (a b : Nat) : glue R a b b = R a := by simp [glue]
theorem glue_kept {R : Nat → Nat} {x y : Nat} (h : R x = R y) (a b : Nat) : glue R a b x = glue R a b y := by unfold glue; rw [h]
theorem glue_fold {R F : Nat → Nat} (hF : ∀ x, F (R x) = F x) {a b : Nat} (h : F a = F b) (x : Nat) : F (glue R a b x) = F x := by
  unfold glue
  by_cases h1 : R x = R b
  · rw [if_pos h1, hF, h, ← hF b, ← h1, hF]
  · rw [if_neg h1, hF]
theorem Rep.both {E : Nat → Nat × Nat} {T : Nat → Bool} {k n a b : Nat} {R : Nat → Nat} (h : Rep E T k n R) (ha : 1 ≤ a ∧ a ≤ n) (hE : E k = (a, b) ∨ E k = (b, a)) (hk : T k = true) : Rep E T (k + 1) n (glue R a b) := by
  refine ⟨glue_idem h.idem a b, ?_, ?_, ?_⟩
  · intro i hi ht
    by_cases hik : i = k
    · subst hik
      rcases hE with e | e <;> simp only [e, glue_self, glue_other]
    · exact glue_kept (h.joins i (by omega) ht) a b
  · intro F hF x
    have h1 := h.least F (fun i hi ht => hF i (by omega) ht)
    have h2 := hF k (by omega) hk
    refine glue_fold h1 ?_ x
    rcases hE with e | e <;> simp only [e] at h2 <;> simp [h2]
  · intro x h1 h2
    unfold glue
    have := h.range x h1 h2
    have := h.range a ha.1 ha.2
    split <;> assumption
theorem Rep.ext {E : Nat → Nat × Nat} {T T' : Nat → Bool} {k n : Nat} {R : Nat → Nat} (h : Rep E T k n R) (ht : ∀ i, i < k → T' i = T i) : Rep E T' k n R :=
  ⟨h.idem, fun i hi h1 => h.joins i hi (ht i hi ▸ h1), fun F hF x => h.least F (fun i hi h1 => hF i hi ((ht i hi).symm ▸ h1)) x, h.range⟩
theorem Rep.mono {E : Nat → Nat × Nat} {T T' : Nat → Bool} {k k' n n' : Nat} {R R' : Nat → Nat} (h : Rep E T k n R) (h' : Rep E T' k' n' R') (hk : k ≤ k') (ht : ∀ i, i < k → T i = true → T' i = true) {x y : Nat} (hxy : R x = R y) : R' x = R' y := by
  have h1 := h.least R' (fun i hi h1 => h'.joins i (by omega) (ht i hi h1))
  rw [← h1 x, ← h1 y, hxy]
theorem Rep.same {E : Nat → Nat × Nat} {T : Nat → Bool} {k n : Nat} {R R' : Nat → Nat} (h : Rep E T k n R) (h' : Rep E T k n R') (x y : Nat) : R x = R y ↔ R' x = R' y :=
  ⟨h.mono h' (Nat.le_refl _) (fun _ _ h => h), h'.mono h (Nat.le_refl _) (fun _ _ h => h)⟩

theorem cnt_congr {R R' : Nat → Nat} : ∀ n, (∀ x, 1 ≤ x → x ≤ n → (R x = x ↔ R' x = x)) → cnt R n = cnt R' n
  | 0, _ => rfl
  | n + 1, h => by
    have h1 := cnt_congr n (fun x h1 h2 => h x h1 (by omega))
    have h2 := h (n + 1) (by omega) (by omega)
    simp only [cnt, h1, h2]
theorem cnt_id {R : Nat → Nat} (h : ∀ x, R x = x) : ∀ n, cnt R n = n
  | 0 => rfl
  | n + 1 => by simp [cnt, cnt_id h n, h]
/-- One less stands for itself. -/
theorem cnt_one {R R' : Nat → Nat} {c : Nat} (h0 : 1 ≤ c) (h : ∀ x, x ≠ c → (R x = x ↔ R' x = x)) (h1 : R c = c) (h2 : R' c ≠ c) : ∀ n, c ≤ n → cnt R n = cnt R' n + 1
  | 0, hn => by omega
  | n + 1, hn => by
    by_cases hc : c = n + 1
    · subst hc
      have := cnt_congr (R := R) (R' := R') n (fun x _ h4 => h x (by omega))
      simp only [cnt, this, h1, h2, if_true, if_false]
    · have h4 := cnt_one h0 h h1 h2 n (by omega)
      have h5 := h (n + 1) (fun e => hc e.symm)
      simp only [cnt, h4, h5]; omega
theorem cnt_pos {R : Nat → Nat} {c : Nat} (h0 : 1 ≤ c) (h1 : R c = c) : ∀ n, c ≤ n → 1 ≤ cnt R n
  | 0, hn => by omega
  | n + 1, hn => by
    by_cases hc : c = n + 1
    · subst hc; simp [cnt, h1]
    · have := cnt_pos h0 h1 n (by omega); simp only [cnt]; omega
theorem cnt_le (R : Nat → Nat) : ∀ n, cnt R n ≤ n
  | 0 => Nat.le_refl _
  | n + 1 => by have := cnt_le R n; simp only [cnt]; split <;> omega

theorem cnt_glue {R : Nat → Nat} {n a b : Nat} (h : ∀ x, R (R x) = R x) (hr : ∀ x, 1 ≤ x → x ≤ n → 1 ≤ R x ∧ R x ≤ n) (hb : 1 ≤ b ∧ b ≤ n) :
    cnt R n = cnt (glue R a b) n + if R a = R b then 0 else 1 := by
  by_cases hab : R a = R b
  · rw [if_pos hab, Nat.add_zero]
    apply cnt_congr
    intro x _ _
    unfold glue
    by_cases hx : R x = R b
    · rw [if_pos hx, hab, hx]
    · rw [if_neg hx]
  · rw [if_neg hab]
    have hr' := hr b hb.1 hb.2
    refine cnt_one hr'.1 ?_ (h b) ?_ n hr'.2
    · intro x hx
      unfold glue
      by_cases h1 : R x = R b
      · rw [if_pos h1]
        constructor
        · intro e; exact absurd (e.symm.trans h1) hx
        · intro e; rw [← e, h] at h1; exact absurd h1 hab
      · rw [if_neg h1]
    · unfold glue; rw [if_pos (h b)]; exact hab

/-- The nodes that stand for themselves. -/
def heads (R : Nat → Nat) : Nat → List Nat
  | 0 => []
  | n + 1 => if R (n + 1) = n + 1 then (n + 1) :: heads R n else heads R n
theorem heads_length (R : Nat → Nat) : ∀ n, (heads R n).length = cnt R n
  | 0 => rfl
  | n + 1 => by simp only [heads, cnt]; split <;> simp [heads_length R n]
theorem heads_mem (R : Nat → Nat) (x : Nat) : ∀ n, x ∈ heads R n ↔ 1 ≤ x ∧ x ≤ n ∧ R x = x
  | 0 => by simp [heads]; omega
  | n + 1 => by
    simp only [heads]
    split
    · rename_i h
      rw [List.mem_cons, heads_mem R x n]
      constructor
      · rintro (rfl | h1)
        · exact ⟨by omega, by omega, h⟩
        · exact ⟨h1.1, by omega, h1.2.2⟩
      · rintro ⟨h1, h2, h3⟩
        by_cases e : x = n + 1
        · exact .inl e
        · exact .inr ⟨h1, by omega, h3⟩
    · rename_i h
      rw [heads_mem R x n]
      constructor
      · rintro ⟨h1, h2, h3⟩; exact ⟨h1, by omega, h3⟩
      · rintro ⟨h1, h2, h3⟩
        by_cases e : x = n + 1
        · subst e; exact absurd h3 h
        · exact ⟨h1, by omega, h3⟩
theorem heads_nodup (R : Nat → Nat) : ∀ n, (heads R n).Nodup
  | 0 => List.nodup_nil
  | n + 1 => by
    simp only [heads]
    split
    · refine List.nodup_cons.2 ⟨fun h => ?_, heads_nodup R n⟩
      have := (heads_mem R _ n).1 h
      omega
    · exact heads_nodup R n
theorem inj_length {F : Nat → Nat} : ∀ (l m : List Nat), l.Nodup → (∀ x ∈ l, F x ∈ m) → (∀ x ∈ l, ∀ y ∈ l, F x = F y → x = y) → l.length ≤ m.length
  | [], _, _, _, _ => Nat.zero_le _
  | a :: l, m, hd, hm, hi => by
    have hd' := List.nodup_cons.1 hd
    have ha := hm a (by simp)
    have h1 := inj_length (F := F) l (m.erase (F a)) hd'.2 (fun x hx => by
      refine (List.mem_erase_of_ne ?_).2 (hm x (by simp [hx]))
      intro e
      exact hd'.1 (hi x (by simp [hx]) a (by simp) e ▸ hx)) (fun x hx y hy => hi x (by simp [hx]) y (by simp [hy]))
    rw [List.length_erase_of_mem ha] at h1
    have : 0 < m.length := List.length_pos_of_mem ha
    simp only [List.length_cons]; omega
/-- What joins no less has no more pieces. -/
theorem cnt_anti {F G : Nat → Nat} {n : Nat} (hi : ∀ x, F (F x) = F x) (hr : ∀ x, 1 ≤ x → x ≤ n → 1 ≤ F x ∧ F x ≤ n) (h : ∀ x y, 1 ≤ x → x ≤ n → 1 ≤ y → y ≤ n → F x = F y → G x = G y) : cnt G n ≤ cnt F n := by
  rw [← heads_length, ← heads_length]
  refine inj_length (F := F) _ _ (heads_nodup G n) ?_ ?_
  · intro x hx
    have h1 := (heads_mem G x n).1 hx
    have h2 := hr x h1.1 h1.2.1
    exact (heads_mem F _ n).2 ⟨h2.1, h2.2, hi x⟩
  · intro x hx y hy e
    have h1 := (heads_mem G x n).1 hx
    have h2 := (heads_mem G y n).1 hy
    have h3 := h x y h1.1 h1.2.1 h2.1 h2.2.1 e
    rw [h1.2.2, h2.2.2] at h3; exact h3

/-- The pieces of the first k edges. -/
def rep (E : Nat → Nat × Nat) (T : Nat → Bool) : Nat → Nat → Nat
  | 0 => fun x => x
  | k + 1 => if T k then glue (rep E T k) (E k).1 (E k).2 else rep E T k
/-- How many of the first k things are there. -/
def card (T : Nat → Bool) : Nat → Nat
  | 0 => 0
  | k + 1 => card T k + if T k then 1 else 0
/-- All ends are nodes. -/
def EndsOk (E : Nat → Nat × Nat) (m n : Nat) : Prop := ∀ i, i < m → (1 ≤ (E i).1 ∧ (E i).1 ≤ n) ∧ (1 ≤ (E i).2 ∧ (E i).2 ≤ n)
theorem rep_ok {E : Nat → Nat × Nat} {m n : Nat} (hE : EndsOk E m n) (T : Nat → Bool) : ∀ k, k ≤ m → Rep E T k n (rep E T k)
  | 0, _ => Rep.start E T n (fun _ => rfl)
  | k + 1, h => by
    have h1 := rep_ok hE T k (by omega)
    simp only [rep]
    cases ht : T k with
    | true => exact h1.both (hE k (by omega)).1 (.inl rfl) ht
    | false => exact h1.skip ht
def pcs (E : Nat → Nat × Nat) (T : Nat → Bool) (m n : Nat) : Nat := cnt (rep E T m) n
theorem Rep.cnt_eq {E : Nat → Nat × Nat} {T : Nat → Bool} {m n : Nat} {R : Nat → Nat} (hE : EndsOk E m n) (h : Rep E T m n R) : cnt R n = pcs E T m n := by
  have h' := rep_ok hE T m (Nat.le_refl _)
  exact Nat.le_antisymm (cnt_anti h'.idem h'.range fun x y _ _ _ _ => (h'.same h x y).1) (cnt_anti h.idem h.range fun x y _ _ _ _ => (h.same h' x y).1)
theorem pcs_ext {E : Nat → Nat × Nat} {T T' : Nat → Bool} {m n : Nat} (hE : EndsOk E m n) (h : ∀ i, i < m → T i = T' i) : pcs E T m n = pcs E T' m n :=
  Rep.cnt_eq hE ((rep_ok hE T m (Nat.le_refl _)).ext fun i hi => (h i hi).symm)
theorem pcs_mono {E : Nat → Nat × Nat} {T T' : Nat → Bool} {m n : Nat} (hE : EndsOk E m n) (h : ∀ i, i < m → T i = true → T' i = true) : pcs E T' m n ≤ pcs E T m n := by
  have h1 := rep_ok hE T m (Nat.le_refl _)
  have h2 := rep_ok hE T' m (Nat.le_refl _)
  exact cnt_anti h1.idem h1.range fun x y _ _ _ _ => h1.mono h2 (Nat.le_refl _) h
theorem pcs_le (E : Nat → Nat × Nat) (T : Nat → Bool) (m n : Nat) : pcs E T m n ≤ n := cnt_le _ _
theorem pcs_pos {E : Nat → Nat × Nat} {T : Nat → Bool} {m n : Nat} (hE : EndsOk E m n) (hn : 1 ≤ n) : 1 ≤ pcs E T m n := by
  have h1 := rep_ok hE T m (Nat.le_refl _)
  have h2 := h1.range 1 (Nat.le_refl _) hn
  exact cnt_pos h2.1 (h1.idem 1) n h2.2
/-- With one edge more there is one piece less, or as many if its ends were joined. -/
theorem pcs_more {E : Nat → Nat × Nat} {T T' : Nat → Bool} {m n k : Nat} (hE : EndsOk E m n) (hk : k < m) (h : ∀ i, i < m → (T' i = true ↔ T i = true ∨ i = k)) :
    pcs E T m n = pcs E T' m n + if rep E T m (E k).1 = rep E T m (E k).2 then 0 else 1 := by
  have h1 := rep_ok hE T m (Nat.le_refl _)
  have h2 := rep_ok hE T' m (Nat.le_refl _)
  have hb := (hE k hk).2
  have ha := (hE k hk).1
  have hj := h2.joins k hk ((h k hk).2 (.inr rfl))
  have e : cnt (glue (rep E T m) (E k).1 (E k).2) n = pcs E T' m n := by
    refine Rep.cnt_eq hE ⟨glue_idem h1.idem _ _, ?_, ?_, ?_⟩
    · intro i hi ht
      rcases (h i hi).1 ht with h3 | rfl
      · exact glue_kept (h1.joins i hi h3) _ _
      · rw [glue_self, glue_other]
    · intro F hF x
      exact glue_fold (h1.least F fun i hi ht => hF i hi ((h i hi).2 (.inl ht))) (hF k hk ((h k hk).2 (.inr rfl))) x
    · intro x h3 h4
      unfold glue
      have := h1.range x h3 h4
      have := h1.range _ ha.1 ha.2
      split <;> assumption
  rw [← e]
  exact cnt_glue h1.idem h1.range hb
/-- At least the nodes less the edges. -/
theorem pcs_card {E : Nat → Nat × Nat} {m n : Nat} (hE : EndsOk E m n) (T : Nat → Bool) : ∀ k, k ≤ m → n ≤ cnt (rep E T k) n + card T k
  | 0, _ => by simp [rep, card, cnt_id]
  | k + 1, h => by
    have h1 := pcs_card hE T k (by omega)
    have h2 := rep_ok hE T k (by omega)
    simp only [rep, card]
    cases ht : T k with
    | true =>
      have h3 := cnt_glue (a := (E k).1) h2.idem h2.range (hE k (by omega)).2
      simp only [if_true]
      split at h3 <;> omega
    | false => simpa using h1
theorem pcs_none {E : Nat → Nat × Nat} {T : Nat → Bool} {m n : Nat} (h : ∀ i, i < m → T i = false) : pcs E T m n = n := by
  have : ∀ k, k ≤ m → rep E T k = fun x => x := by
    intro k
    induction k with
    | zero => intro _; rfl
    | succ k ih => intro hk; simp only [rep, h k (by omega)]; simpa using ih (by omega)
  unfold pcs; rw [this m (Nat.le_refl _)]; exact cnt_id (fun _ => rfl) n

/-- What both have and what either has: at most both ranks. -/
theorem pcs_both {E : Nat → Nat × Nat} {A B : Nat → Bool} {m n : Nat} (hE : EndsOk E m n) :
    pcs E A m n + pcs E B m n ≤ pcs E (fun i => A i && B i) m n + pcs E (fun i => A i || B i) m n := by
  have step : ∀ k, k ≤ m → pcs E A m n + pcs E (fun i => (A i && B i) || (decide (i < k) && B i)) m n ≤ pcs E (fun i => A i && B i) m n + pcs E (fun i => A i || (decide (i < k) && B i)) m n := by
    intro k
    induction k with
    | zero =>
      intro _
      have e1 : (fun i => (A i && B i) || (decide (i < 0) && B i)) = fun i => A i && B i := by funext i; simp
      have e2 : (fun i => A i || (decide (i < 0) && B i)) = A := by funext i; simp
      rw [e1, e2, Nat.add_comm]; exact Nat.le_refl _
    | succ k ih =>
      intro hk
      have h0 := ih (by omega)
      cases hb : B k with
      | false =>
        have e1 : pcs E (fun i => (A i && B i) || (decide (i < k + 1) && B i)) m n = pcs E (fun i => (A i && B i) || (decide (i < k) && B i)) m n := by
          refine pcs_ext hE fun i hi => ?_
          by_cases hik : i = k
          · subst hik; simp [hb]
          · simp [show i < k + 1 ↔ i < k by omega]
        have e2 : pcs E (fun i => A i || (decide (i < k + 1) && B i)) m n = pcs E (fun i => A i || (decide (i < k) && B i)) m n := by
          refine pcs_ext hE fun i hi => ?_
          by_cases hik : i = k
          · subst hik; simp [hb]
          · simp [show i < k + 1 ↔ i < k by omega]
        rw [e1, e2]; exact h0
      | true =>
        have h1 := pcs_more (T := fun i => (A i && B i) || (decide (i < k) && B i)) (T' := fun i => (A i && B i) || (decide (i < k + 1) && B i)) hE (show k < m by omega) (by
          intro i hi
          by_cases hik : i = k
          · subst hik; simp [hb]
          · simp [show i < k + 1 ↔ i < k by omega, hik])
        have h2 := pcs_more (T := fun i => A i || (decide (i < k) && B i)) (T' := fun i => A i || (decide (i < k + 1) && B i)) hE (show k < m by omega) (by
          intro i hi
          by_cases hik : i = k
          · subst hik; simp [hb]
          · simp [show i < k + 1 ↔ i < k by omega, hik])
        by_cases hj : rep E (fun i => (A i && B i) || (decide (i < k) && B i)) m (E k).1 = rep E (fun i => (A i && B i) || (decide (i < k) && B i)) m (E k).2
        · have hj' := (rep_ok hE (fun i => (A i && B i) || (decide (i < k) && B i)) m (Nat.le_refl _)).mono (rep_ok hE (fun i => A i || (decide (i < k) && B i)) m (Nat.le_refl _)) (Nat.le_refl _) (by
            intro i _ h; simp only [Bool.or_eq_true, Bool.and_eq_true] at h ⊢; rcases h with h | h
            · exact .inl h.1
            · exact .inr h) hj
          rw [if_pos hj] at h1
          rw [if_pos hj'] at h2
          omega
        · rw [if_neg hj] at h1
          split at h2 <;> omega
  have h := step m (Nat.le_refl _)
  have e1 : pcs E (fun i => (A i && B i) || (decide (i < m) && B i)) m n = pcs E B m n := by
    refine pcs_ext hE fun i hi => ?_
    simp only [hi, decide_true, Bool.true_and]; cases A i <;> cases B i <;> rfl
  have e2 : pcs E (fun i => A i || (decide (i < m) && B i)) m n = pcs E (fun i => A i || B i) m n := by
    refine pcs_ext hE fun i hi => ?_
    simp only [hi, decide_true, Bool.true_and]
  rw [e1, e2] at h; exact h

theorem card_less {T T' : Nat → Bool} {k : Nat} (ht : T k = true) (h : ∀ i, T' i = true ↔ T i = true ∧ i ≠ k) : ∀ m, k < m → card T m = card T' m + 1
  | 0, hk => by omega
  | m + 1, hk => by
    have same : ∀ j, j ≤ k → card T j = card T' j := by
      intro j
      induction j with
      | zero => intro _; rfl
      | succ j ih =>
        intro hj
        have : T j = T' j := by rw [Bool.eq_iff_iff, h j]; exact ⟨fun e => ⟨e, by omega⟩, fun e => e.1⟩
        simp only [card, ih (by omega), this]
    by_cases e : k = m
    · subst e
      have : T' k = false := by cases h1 : T' k with
        | false => rfl
        | true => exact absurd rfl ((h k).1 h1).2
      simp [card, same k (Nat.le_refl _), ht, this]
    · have h1 := card_less ht h m (by omega)
      have : T m = T' m := by rw [Bool.eq_iff_iff, h m]; exact ⟨fun e' => ⟨e', fun h => e h.symm⟩, fun e' => e'.1⟩
      simp only [card, h1, this]; omega

/-- Without rings each edge counts. -/
theorem free_less {E : Nat → Nat × Nat} {T T' : Nat → Bool} {m n k : Nat} (hE : EndsOk E m n) (hk : k < m) (ht : T k = true) (h : ∀ i, T' i = true ↔ T i = true ∧ i ≠ k) (hf : pcs E T m n + card T m = n) :
    pcs E T' m n + card T' m = n ∧ pcs E T' m n = pcs E T m n + 1 := by
  have h1 := pcs_more (T := T') (T' := T) hE hk (fun i _ => by
    rw [h i]
    by_cases e : i = k
    · subst e; simp [ht]
    · simp [e])
  have h2 := card_less ht h m hk
  have h3 := pcs_card hE T' m (Nat.le_refl _)
  have h4 : cnt (rep E T' m) n = pcs E T' m n := rfl
  split at h1 <;> omega
theorem free_of {E : Nat → Nat × Nat} {T : Nat → Bool} {m n : Nat} (hE : EndsOk E m n)
    (h : ∀ k, k < m → T k = true → pcs E (fun i => T i && decide (i ≠ k)) m n = pcs E T m n + 1) : pcs E T m n + card T m = n := by
  have step : ∀ k, k ≤ m → cnt (rep E T k) n + card T k = n := by
    intro k
    induction k with
    | zero => intro _; simp [rep, card, cnt_id]
    | succ k ih =>
      intro hk
      have h0 := ih (by omega)
      have h2 := rep_ok hE T k (by omega)
      simp only [rep, card]
      cases ht : T k with
      | false => simpa using h0
      | true =>
        have h3 := cnt_glue (a := (E k).1) h2.idem h2.range (hE k (by omega)).2
        simp only [if_true]
        by_cases hj : rep E T k (E k).1 = rep E T k (E k).2
        · have h4 := h k (by omega) ht
          have hj' := h2.mono (rep_ok hE (fun i => T i && decide (i ≠ k)) m (Nat.le_refl _)) (by omega) (by
            intro i hi h5; simp [h5]; omega) hj
          have h5 := pcs_more (T := fun i => T i && decide (i ≠ k)) (T' := T) hE (show k < m by omega) (by
            intro i _
            by_cases e : i = k
            · subst e; simp [ht]
            · simp [e])
          rw [if_pos hj'] at h5
          omega
        · rw [if_neg hj] at h3; omega
  exact step m (Nat.le_refl _)

/-- One piece: each node is joined to the first one. -/
theorem pcs_whole {E : Nat → Nat × Nat} {T : Nat → Bool} {m n : Nat} (hE : EndsOk E m n) (hn : 1 ≤ n) :
    pcs E T m n = 1 ↔ ∀ x, 1 ≤ x → x ≤ n → rep E T m 1 = rep E T m x := by
  have h1 := rep_ok hE T m (Nat.le_refl _)
  constructor
  · intro h x hx hx'
    by_cases e : rep E T m 1 = rep E T m x
    · exact e
    · have h3 := cnt_glue (a := 1) h1.idem h1.range ⟨hx, hx'⟩
      rw [if_neg e] at h3
      have h4 := h1.range 1 (Nat.le_refl _) hn
      have h5 : glue (rep E T m) 1 x (rep E T m 1) = rep E T m 1 := by unfold glue; rw [h1.idem]; split <;> rfl
      have h6 := cnt_pos h4.1 h5 n h4.2
      unfold pcs at h
      omega
  · intro h
    have h2 := cnt_anti (F := fun _ => 1) (G := rep E T m) (n := n) (fun _ => rfl) (fun _ _ _ => ⟨Nat.le_refl _, hn⟩) (fun x y hx hx' hy hy' _ => (h x hx hx').symm.trans (h y hy hy'))
    have h3 : ∀ j, cnt (fun _ => 1) j ≤ 1 := by
      intro j
      cases j with
      | zero => simp [cnt]
      | succ j =>
        induction j with
        | zero => simp [cnt]
        | succ j ih =>
          have : cnt (fun _ => 1) (j + 1 + 1) = cnt (fun _ => 1) (j + 1) := by rw [cnt, if_neg (by omega), Nat.add_zero]
          omega
    have h4 := pcs_pos (T := T) hE hn
    have h5 := h3 n
    unfold pcs at h4 ⊢
    omega
end Go.Proofs.Ytdacfeebidhgnaa

/- Plain facts on counts of states: how many choices of so many edges of a list meet what depends on the pieces alone. -/
namespace Go.Proofs.Ytdacfeebidhgnaa
set_option maxRecDepth 100000

/-- Both join the same. -/
def Ker (R R' : Nat → Nat) : Prop := ∀ x y, R x = R y ↔ R' x = R' y
theorem Ker.refl (R : Nat → Nat) : Ker R R := fun _ _ => Iff.rfl
theorem Ker.symm {R R' : Nat → Nat} (h : Ker R R') : Ker R' R := fun x y => (h x y).symm
theorem Ker.trans {R R' R'' : Nat → Nat} (h : Ker R R') (h' : Ker R' R'') : Ker R R'' := fun x y => (h x y).trans (h' x y)
theorem glue_eq (R : Nat → Nat) (a b x y : Nat) : glue R a b x = glue R a b y ↔ R x = R y ∨ ((R x = R a ∨ R x = R b) ∧ (R y = R a ∨ R y = R b)) := by
  unfold glue
  split <;> split <;> omega
theorem Ker.glue {R R' : Nat → Nat} (h : Ker R R') (a b : Nat) : Ker (glue R a b) (glue R' a b) := by
  intro x y
  rw [glue_eq, glue_eq, h x y, h x a, h x b, h y a, h y b]
theorem Ker.swap (R : Nat → Nat) (a b : Nat) : Ker (Go.Proofs.Ytdacfeebidhgnaa.glue R a b) (Go.Proofs.Ytdacfeebidhgnaa.glue R b a) := by
  intro x y
  rw [glue_eq, glue_eq]; omega
/-- What R joins, F joins. -/
def Sub (R F : Nat → Nat) : Prop := ∀ x y, R x = R y → F x = F y
theorem Sub.glue {R F : Nat → Nat} (h : Sub R F) {a b : Nat} (hab : F a = F b) : Sub (Go.Proofs.Ytdacfeebidhgnaa.glue R a b) F := by
  intro x y hxy
  have to : ∀ z, R z = R a ∨ R z = R b → F z = F a := fun z hz => by
    rcases hz with hz | hz
    · exact h z a hz
    · exact (h z b hz).trans hab.symm
  rcases (glue_eq R a b x y).1 hxy with h1 | ⟨h1, h2⟩
  · exact h x y h1
  · exact (to x h1).trans (to y h2).symm
theorem Sub.two (R : Nat → Nat) (a b c d : Nat) : Sub (Go.Proofs.Ytdacfeebidhgnaa.glue (Go.Proofs.Ytdacfeebidhgnaa.glue R a b) c d) (Go.Proofs.Ytdacfeebidhgnaa.glue (Go.Proofs.Ytdacfeebidhgnaa.glue R c d) a b) := by
  have h0 : Sub R (Go.Proofs.Ytdacfeebidhgnaa.glue (Go.Proofs.Ytdacfeebidhgnaa.glue R c d) a b) := fun x y h => glue_kept (glue_kept h c d) a b
  refine (h0.glue ?_).glue ?_
  · rw [glue_self, glue_other]
  · exact glue_kept (by rw [glue_self, glue_other]) a b
theorem Ker.comm (R : Nat → Nat) (a b c d : Nat) : Ker (Go.Proofs.Ytdacfeebidhgnaa.glue (Go.Proofs.Ytdacfeebidhgnaa.glue R a b) c d) (Go.Proofs.Ytdacfeebidhgnaa.glue (Go.Proofs.Ytdacfeebidhgnaa.glue R c d) a b) :=
  fun x y => ⟨Sub.two R a b c d x y, Sub.two R c d a b x y⟩
theorem Ker.joined {R : Nat → Nat} {a b : Nat} (h : R a = R b) : Ker (Go.Proofs.Ytdacfeebidhgnaa.glue R a b) R := by
  intro x y
  rw [glue_eq]; omega

/-- In how many ways k of the edges may be chosen so that q holds of R with them. -/
def ways (q : (Nat → Nat) → Bool) : List (Nat × Nat) → (Nat → Nat) → Nat → Nat
  | [], R, k => if k = 0 then (if q R = true then 1 else 0) else 0
  | _ :: es, R, 0 => ways q es R 0
  | e :: es, R, k + 1 => ways q es R (k + 1) + ways q es (glue R e.1 e.2) k
def Blind (q : (Nat → Nat) → Bool) : Prop := ∀ R R', Ker R R' → q R = q R'
theorem ways_ker {q : (Nat → Nat) → Bool} (hq : Blind q) : ∀ (es : List (Nat × Nat)) (R R' : Nat → Nat) (k : Nat), Ker R R' → ways q es R k = ways q es R' k
  | [], R, R', k, h => by simp only [ways, hq R R' h]
  | _ :: es, R, R', 0, h => by simp only [ways]; exact ways_ker hq es R R' 0 h
  | e :: es, R, R', k + 1, h => by
    simp only [ways]
    rw [ways_ker hq es R R' (k + 1) h, ways_ker hq es _ _ k (h.glue e.1 e.2)]
/-- An edge is there or not, wherever it stands in the list. -/
theorem ways_zero (q : (Nat → Nat) → Bool) (e : Nat × Nat) (l2 : List (Nat × Nat)) : ∀ (l1 : List (Nat × Nat)) (R : Nat → Nat), ways q (l1 ++ e :: l2) R 0 = ways q (l1 ++ l2) R 0
  | [], R => rfl
  | f :: l1, R => by simp only [List.cons_append, ways]; exact ways_zero q e l2 l1 R
theorem ways_move {q : (Nat → Nat) → Bool} (hq : Blind q) (e : Nat × Nat) (l2 : List (Nat × Nat)) : ∀ (l1 : List (Nat × Nat)) (R : Nat → Nat) (k : Nat),
    ways q (l1 ++ e :: l2) R (k + 1) = ways q (l1 ++ l2) R (k + 1) + ways q (l1 ++ l2) (glue R e.1 e.2) k
  | [], R, k => rfl
  | f :: l1, R, 0 => by
    simp only [List.cons_append, ways]
    rw [ways_move hq e l2 l1 R 0, ways_zero q e l2 l1]
    omega
  | f :: l1, R, k + 1 => by
    simp only [List.cons_append, ways]
    rw [ways_move hq e l2 l1 R (k + 1), ways_move hq e l2 l1 (glue R f.1 f.2) k, ways_ker hq (l1 ++ l2) _ _ k (Ker.comm R f.1 f.2 e.1 e.2)]
    omega
/-- An edge whose ends are joined already: there or not. -/
theorem ways_loop {q : (Nat → Nat) → Bool} (hq : Blind q) {e : Nat × Nat} {R : Nat → Nat} (h : R e.1 = R e.2) (es : List (Nat × Nat)) (k : Nat) :
    ways q (e :: es) R (k + 1) = ways q es R (k + 1) + ways q es R k := by
  simp only [ways]
  rw [ways_ker hq es _ _ k (Ker.joined h)]
theorem ways_more (q : (Nat → Nat) → Bool) : ∀ (es : List (Nat × Nat)) (R : Nat → Nat) (k : Nat), es.length < k → ways q es R k = 0
  | [], R, k, h => by simp only [ways]; rw [if_neg (by simpa using (show ¬ k = 0 by simp at h; omega))]
  | _ :: es, R, 0, h => by simp at h
  | e :: es, R, k + 1, h => by
    simp only [List.length_cons] at h
    simp only [ways]
    rw [ways_more q es R (k + 1) (by omega), ways_more q es _ k (by omega)]

/-- What works goes on working with one edge more. -/
def Up (q : (Nat → Nat) → Bool) : Prop := ∀ R a b, q R = true → q (glue R a b) = true
theorem ways_up {q : (Nat → Nat) → Bool} (hq : Blind q) (hu : Up q) (a b : Nat) : ∀ (es : List (Nat × Nat)) (R : Nat → Nat) (k : Nat), ways q es R k ≤ ways q es (glue R a b) k
  | [], R, k => by
    simp only [ways]
    split
    · split
      · rename_i h; rw [if_pos (hu R a b h)]; exact Nat.le_refl _
      · exact Nat.zero_le _
    · exact Nat.le_refl _
  | _ :: es, R, 0 => by simp only [ways]; exact ways_up hq hu a b es R 0
  | e :: es, R, k + 1 => by
    simp only [ways]
    have h1 := ways_up hq hu a b es R (k + 1)
    have h2 := ways_up hq hu a b es (glue R e.1 e.2) k
    rw [ways_ker hq es _ _ k (Ker.comm R e.1 e.2 a b)] at h2
    omega
/-- Each count, times the edges that lack, is at most the next one times its edges. -/
theorem ways_next {q : (Nat → Nat) → Bool} (hq : Blind q) (hu : Up q) : ∀ (es : List (Nat × Nat)) (R : Nat → Nat) (k : Nat), ways q es R k * (es.length - k) ≤ ways q es R (k + 1) * (k + 1)
  | [], R, k => by simp
  | e :: es, R, 0 => by
    have h1 := ways_next hq hu es R 0
    have h2 := ways_up hq hu e.1 e.2 es R 0
    simp only [ways, List.length_cons, Nat.sub_zero, Nat.zero_add, Nat.mul_one] at h1 ⊢
    rw [Nat.mul_succ]; omega
  | e :: es, R, k + 1 => by
    have h1 := ways_next hq hu es R (k + 1)
    have h2 := ways_next hq hu es (glue R e.1 e.2) k
    have h3 := ways_up hq hu e.1 e.2 es R (k + 1)
    simp only [ways, List.length_cons]
    generalize ways q es R (k + 1) = A at *
    generalize ways q es R (k + 1 + 1) = A' at *
    generalize ways q es (glue R e.1 e.2) k = B at *
    generalize ways q es (glue R e.1 e.2) (k + 1) = B' at *
    rw [Nat.add_sub_add_right, Nat.add_mul, Nat.add_mul]
    by_cases hk : k + 1 ≤ es.length
    · have e1 : es.length - k = (es.length - (k + 1)) + 1 := by omega
      have e2 : A * (es.length - k) = A * (es.length - (k + 1)) + A := by rw [e1, Nat.mul_succ]
      have e3 : B' * (k + 1 + 1) = B' * (k + 1) + B' := Nat.mul_succ _ _
      omega
    · have e1 : es.length - k = 0 := by omega
      rw [e1, Nat.mul_zero, Nat.mul_zero]; exact Nat.zero_le _

/-- Choices. -/
def chs : Nat → Nat → Nat
  | _, 0 => 1
  | 0, _ + 1 => 0
  | n + 1, k + 1 => chs n (k + 1) + chs n k
theorem ways_le (q : (Nat → Nat) → Bool) : ∀ (es : List (Nat × Nat)) (R : Nat → Nat) (k : Nat), ways q es R k ≤ chs es.length k
  | [], R, 0 => by
    simp only [ways, chs, if_true]
    split <;> omega
  | [], R, k + 1 => by simp [ways]
  | _ :: es, R, 0 => by simp only [ways]; have := ways_le q es R 0; simpa [chs] using this
  | e :: es, R, k + 1 => by
    simp only [ways, List.length_cons, chs]
    have h1 := ways_le q es R (k + 1)
    have h2 := ways_le q es (glue R e.1 e.2) k
    omega
end Go.Proofs.Ytdacfeebidhgnaa

/- Plain facts on counts of states, on: states are choices of edges; forests; an edge made one. -/
namespace Go.Proofs.Ytdacfeebidhgnaa
set_option maxRecDepth 100000

theorem countP_double (f : Nat → Bool) : ∀ n, (List.range (2 * n)).countP f = (List.range n).countP (fun s => f (2 * s)) + (List.range n).countP (fun s => f (2 * s + 1))
  | 0 => rfl
  | n + 1 => by
    rw [show 2 * (n + 1) = 2 * n + 1 + 1 by omega, List.range_succ, List.range_succ, List.range_succ]
    simp only [List.countP_append, List.countP_cons, List.countP_nil, countP_double f n]
    omega
/-- R, and what the edges there join, one by one. -/
def repL : List (Nat × Nat) → (Nat → Bool) → (Nat → Nat) → Nat → Nat
  | [], _, R => R
  | e :: es, T, R => repL es (fun i => T (i + 1)) (if T 0 = true then glue R e.1 e.2 else R)
theorem repL_append (e : Nat × Nat) : ∀ (l : List (Nat × Nat)) (T : Nat → Bool) (R : Nat → Nat), repL (l ++ [e]) T R = if T l.length = true then glue (repL l T R) e.1 e.2 else repL l T R
  | [], T, R => by simp [repL]
  | f :: l, T, R => by simp only [List.cons_append, repL, repL_append e l, List.length_cons]
theorem repL_rep (E : Nat → Nat × Nat) (T : Nat → Bool) : ∀ m, repL ((List.range m).map E) T (fun x => x) = rep E T m
  | 0 => rfl
  | m + 1 => by
    rw [List.range_succ, List.map_append, List.map_cons, List.map_nil, repL_append, repL_rep E T m]
    simp [rep]
theorem bit_even (s i : Nat) : (2 * s).testBit (i + 1) = s.testBit i := by rw [Nat.testBit_succ]; congr 1; omega
theorem bit_odd (s i : Nat) : (2 * s + 1).testBit (i + 1) = s.testBit i := by rw [Nat.testBit_succ]; congr 1; omega
theorem pop_even (s : Nat) (h : s < 1024) : pop (2 * s) = pop s := by
  rw [pop_step (2 * s) (by omega), show 2 * s % 2 = 0 by omega, show 2 * s / 2 = s by omega]; omega
theorem pop_odd (s : Nat) (h : s < 1024) : pop (2 * s + 1) = pop s + 1 := by
  rw [pop_step (2 * s + 1) (by omega), show (2 * s + 1) % 2 = 1 by omega, show (2 * s + 1) / 2 = s by omega]; omega
theorem pow_le10 {m : Nat} (h : m ≤ 10) : 2 ^ m ≤ 1024 := Nat.pow_le_pow_right (by omega) h
theorem countP_same {f g : Nat → Bool} {n : Nat} (h : ∀ s, s < n → f s = g s) : (List.range n).countP f = (List.range n).countP g := by
  induction n with
  | zero => rfl
  | succ n ih =>
    rw [List.range_succ, List.countP_append, List.countP_append, ih (fun s hs => h s (by omega)), List.countP_cons, List.countP_cons, h n (by omega)]
    rfl
/-- States with k edges there that meet q are choices of k edges. -/
theorem states_ways (q : (Nat → Nat) → Bool) : ∀ (es : List (Nat × Nat)) (R : Nat → Nat) (k : Nat), es.length ≤ 10 →
    (List.range (2 ^ es.length)).countP (fun s => q (repL es (fun i => s.testBit i) R) && decide (pop s = k)) = ways q es R k
  | [], R, k, _ => by
    simp only [List.length_nil, Nat.pow_zero, List.range_one, List.countP_cons, List.countP_nil, repL, ways, pop_zero]
    by_cases hk : k = 0
    · subst hk; simp
    · simp [hk, show ¬ 0 = k from fun e => hk e.symm]
  | e :: es, R, k, h => by
    simp only [List.length_cons] at h ⊢
    have hp := pow_le10 (show es.length ≤ 10 by omega)
    rw [Nat.pow_succ, Nat.mul_comm, countP_double]
    have h1 : (List.range (2 ^ es.length)).countP (fun s => q (repL (e :: es) (fun i => (2 * s).testBit i) R) && decide (pop (2 * s) = k)) = ways q es R k := by
      rw [← states_ways q es R k (by omega)]
      refine countP_same fun s hs => ?_
      simp only [repL, bit_even, pop_even s (by omega)]
      simp
    have h2 : ∀ j, k = j + 1 → (List.range (2 ^ es.length)).countP (fun s => q (repL (e :: es) (fun i => (2 * s + 1).testBit i) R) && decide (pop (2 * s + 1) = k)) = ways q es (glue R e.1 e.2) j := by
      intro j hj
      rw [← states_ways q es (glue R e.1 e.2) j (by omega)]
      refine countP_same fun s hs => ?_
      simp only [repL, bit_odd, pop_odd s (by omega), hj]
      simp
    rw [h1]
    cases k with
    | zero =>
      have h3 : (List.range (2 ^ es.length)).countP (fun s => q (repL (e :: es) (fun i => (2 * s + 1).testBit i) R) && decide (pop (2 * s + 1) = 0)) = 0 := by
        rw [List.countP_eq_zero]
        intro s hs
        have := List.mem_range.1 hs
        simp [pop_odd s (by omega)]
      rw [h3]; rfl
    | succ j => rw [h2 j rfl]; rfl

/-- Choices of k edges without a ring. -/
def forests : List (Nat × Nat) → (Nat → Nat) → Nat → Nat
  | [], _, k => if k = 0 then 1 else 0
  | _ :: es, R, 0 => forests es R 0
  | e :: es, R, k + 1 => forests es R (k + 1) + if R e.1 = R e.2 then 0 else forests es (glue R e.1 e.2) k
def EdgesOk (n : Nat) (es : List (Nat × Nat)) : Prop := ∀ e ∈ es, (1 ≤ e.1 ∧ e.1 ≤ n) ∧ (1 ≤ e.2 ∧ e.2 ≤ n)
/-- R gives each node one of its piece. -/
structure Good (n : Nat) (R : Nat → Nat) : Prop where
  idem : ∀ x, R (R x) = R x
  range : ∀ x, 1 ≤ x → x ≤ n → 1 ≤ R x ∧ R x ≤ n
theorem Good.glue {n : Nat} {R : Nat → Nat} (h : Good n R) {a b : Nat} (ha : 1 ≤ a ∧ a ≤ n) : Good n (glue R a b) :=
  ⟨glue_idem h.idem a b, fun x h1 h2 => by
    unfold Go.Proofs.Ytdacfeebidhgnaa.glue
    have := h.range x h1 h2
    have := h.range a ha.1 ha.2
    split <;> assumption⟩
def whole1 (n : Nat) (R : Nat → Nat) : Bool := decide (cnt R n = 1)
theorem Good.pos {n : Nat} {R : Nat → Nat} (h : Good n R) (hn : 1 ≤ n) : 1 ≤ cnt R n := by
  have h1 := h.range 1 (Nat.le_refl _) hn
  exact cnt_pos h1.1 (h.idem 1) n h1.2
theorem forests_zero : ∀ (es : List (Nat × Nat)) (R : Nat → Nat), forests es R 0 = 1
  | [], _ => rfl
  | _ :: es, R => by simp only [forests]; exact forests_zero es R
/-- As many edges as pieces: none. -/
theorem forests_many {n : Nat} (hn : 1 ≤ n) : ∀ (es : List (Nat × Nat)) (R : Nat → Nat) (k : Nat), EdgesOk n es → Good n R → cnt R n ≤ k → forests es R k = 0
  | [], R, k, _, hg, h => by
    have := hg.pos hn
    simp only [forests]; rw [if_neg (by omega)]
  | _ :: es, R, 0, _, hg, h => by have := hg.pos hn; omega
  | e :: es, R, k + 1, he, hg, h => by
    have he' : EdgesOk n es := fun x hx => he x (by simp [hx])
    have h1 := he e (by simp)
    simp only [forests]
    rw [forests_many hn es R (k + 1) he' hg h]
    split
    · rfl
    · rename_i hne
      have hc := cnt_glue (a := e.1) hg.idem hg.range h1.2
      rw [if_neg hne] at hc
      rw [forests_many hn es _ k he' (hg.glue h1.1) (by omega)]
/-- Too few edges: not whole. -/
theorem whole_few {n : Nat} : ∀ (es : List (Nat × Nat)) (R : Nat → Nat) (k : Nat), EdgesOk n es → Good n R → k + 1 < cnt R n → ways (whole1 n) es R k = 0
  | [], R, k, _, _, h => by
    have hf : whole1 n R = false := by simp [whole1]; omega
    simp only [ways, hf]
    simp
  | e :: es, R, 0, he, hg, h => by
    simp only [ways]; exact whole_few es R 0 (fun x hx => he x (by simp [hx])) hg h
  | e :: es, R, k + 1, he, hg, h => by
    have he' : EdgesOk n es := fun x hx => he x (by simp [hx])
    have h1 := he e (by simp)
    have hc := cnt_glue (a := e.1) hg.idem hg.range h1.2
    simp only [ways]
    rw [whole_few es R (k + 1) he' hg h, whole_few es _ k he' (hg.glue h1.1) (by split at hc <;> omega)]
/-- One less edges than pieces: whole exactly without a ring. -/
theorem whole_forests {n : Nat} : ∀ (es : List (Nat × Nat)) (R : Nat → Nat) (k : Nat), EdgesOk n es → Good n R → cnt R n = k + 1 → ways (whole1 n) es R k = forests es R k
  | [], R, k, _, _, h => by
    simp only [ways, forests, whole1]
    by_cases hk : k = 0
    · subst hk; simp [h]
    · simp [hk]
  | e :: es, R, 0, he, hg, h => by
    simp only [ways, forests]; exact whole_forests es R 0 (fun x hx => he x (by simp [hx])) hg h
  | e :: es, R, k + 1, he, hg, h => by
    have he' : EdgesOk n es := fun x hx => he x (by simp [hx])
    have h1 := he e (by simp)
    have hc := cnt_glue (a := e.1) hg.idem hg.range h1.2
    simp only [ways, forests]
    rw [whole_forests es R (k + 1) he' hg h]
    split
    · rename_i hj
      rw [if_pos hj] at hc
      rw [whole_few es _ k he' (hg.glue h1.1) (by omega)]
    · rename_i hj
      rw [if_neg hj] at hc
      rw [whole_forests es _ k he' (hg.glue h1.1) (by omega)]
end Go.Proofs.Ytdacfeebidhgnaa

/- Plain facts on counts of states, on: whole nets, an edge away and an edge made one. -/
namespace Go.Proofs.Ytdacfeebidhgnaa
set_option maxRecDepth 100000

/-- All nodes are joined to the first one. -/
def wholeA (n : Nat) (R : Nat → Nat) : Bool := (List.range n).all fun i => decide (R 1 = R (i + 1))
theorem wholeA_iff (n : Nat) (R : Nat → Nat) : wholeA n R = true ↔ ∀ x, 1 ≤ x → x ≤ n → R 1 = R x := by
  simp only [wholeA, List.all_eq_true, List.mem_range, decide_eq_true_eq]
  constructor
  · intro h x h1 h2
    have := h (x - 1) (by omega)
    rwa [show x - 1 + 1 = x by omega] at this
  · intro h i hi
    exact h (i + 1) (by omega) (by omega)
theorem wholeA_blind (n : Nat) : Blind (wholeA n) := by
  intro R R' h
  rw [Bool.eq_iff_iff, wholeA_iff, wholeA_iff]
  constructor
  · intro h1 x a b; exact (h 1 x).1 (h1 x a b)
  · intro h1 x a b; exact (h 1 x).2 (h1 x a b)
theorem wholeA_up (n : Nat) : Up (wholeA n) := by
  intro R a b h
  rw [wholeA_iff] at h ⊢
  intro x h1 h2
  exact glue_kept (h x h1 h2) a b
theorem good_whole {n : Nat} {R : Nat → Nat} (h1 : Good n R) (hn : 1 ≤ n) : whole1 n R = wholeA n R := by
  rw [Bool.eq_iff_iff, wholeA_iff]
  simp only [whole1, decide_eq_true_eq]
  constructor
  · intro h x hx hx'
    by_cases e : R 1 = R x
    · exact e
    · have h3 := cnt_glue (a := 1) h1.idem h1.range ⟨hx, hx'⟩
      rw [if_neg e] at h3
      have h6 := (h1.glue (a := 1) (b := x) ⟨Nat.le_refl _, hn⟩).pos hn
      omega
  · intro h
    have h2 := cnt_anti (F := fun _ => 1) (G := R) (n := n) (fun _ => rfl) (fun _ _ _ => ⟨Nat.le_refl _, hn⟩) (fun x y hx hx' hy hy' _ => (h x hx hx').symm.trans (h y hy hy'))
    have h3 : ∀ j, cnt (fun _ => 1) j ≤ 1 := by
      intro j
      cases j with
      | zero => simp [cnt]
      | succ j =>
        induction j with
        | zero => simp [cnt]
        | succ j ih =>
          have : cnt (fun _ => 1) (j + 1 + 1) = cnt (fun _ => 1) (j + 1) := by rw [cnt, if_neg (by omega), Nat.add_zero]
          omega
    have h4 := h1.pos hn
    have h5 := h3 n
    omega
theorem ways_good {n : Nat} (hn : 1 ≤ n) : ∀ (es : List (Nat × Nat)) (R : Nat → Nat) (k : Nat), EdgesOk n es → Good n R → ways (whole1 n) es R k = ways (wholeA n) es R k
  | [], R, k, _, hg => by simp only [ways, good_whole hg hn]
  | _ :: es, R, 0, he, hg => by simp only [ways]; exact ways_good hn es R 0 (fun x hx => he x (by simp [hx])) hg
  | e :: es, R, k + 1, he, hg => by
    have he' : EdgesOk n es := fun x hx => he x (by simp [hx])
    simp only [ways]
    rw [ways_good hn es R (k + 1) he' hg, ways_good hn es _ k he' (hg.glue (he e (by simp)).1)]

/-- Among 1..n R joins what R' joins of the new names. -/
def RelK (n : Nat) (f : Nat → Nat) (R R' : Nat → Nat) : Prop := ∀ x y, 1 ≤ x → x ≤ n → 1 ≤ y → y ≤ n → (R x = R y ↔ R' (f x) = R' (f y))
theorem RelK.glue {n : Nat} {f R R' : Nat → Nat} (h : RelK n f R R') {a b : Nat} (ha : 1 ≤ a ∧ a ≤ n) (hb : 1 ≤ b ∧ b ≤ n) : RelK n f (glue R a b) (glue R' (f a) (f b)) := by
  intro x y h1 h2 h3 h4
  rw [glue_eq, glue_eq, h x y h1 h2 h3 h4, h x a h1 h2 ha.1 ha.2, h x b h1 h2 hb.1 hb.2, h y a h3 h4 ha.1 ha.2, h y b h3 h4 hb.1 hb.2]
def mmN (f : Nat → Nat) (e : Nat × Nat) : Nat × Nat := (min (f e.1) (f e.2), max (f e.1) (f e.2))
theorem RelK.glueM {n : Nat} {f R R' : Nat → Nat} (h : RelK n f R R') {e : Nat × Nat} (ha : 1 ≤ e.1 ∧ e.1 ≤ n) (hb : 1 ≤ e.2 ∧ e.2 ≤ n) : RelK n f (Go.Proofs.Ytdacfeebidhgnaa.glue R e.1 e.2) (Go.Proofs.Ytdacfeebidhgnaa.glue R' (mmN f e).1 (mmN f e).2) := by
  have h1 := h.glue ha hb
  by_cases hlt : f e.1 ≤ f e.2
  · have e1 : (mmN f e).1 = f e.1 := by simp [mmN]; omega
    have e2 : (mmN f e).2 = f e.2 := by simp [mmN]; omega
    rw [e1, e2]; exact h1
  · have e1 : (mmN f e).1 = f e.2 := by simp [mmN]; omega
    have e2 : (mmN f e).2 = f e.1 := by simp [mmN]; omega
    rw [e1, e2]
    intro x y a b c d
    exact (h1 x y a b c d).trans (Ker.swap R' (f e.1) (f e.2) _ _)
theorem ways_rel {n n' : Nat} {f : Nat → Nat} (h1 : f 1 = 1) (hn : 1 ≤ n) (hf : ∀ x, 1 ≤ x → x ≤ n → 1 ≤ f x ∧ f x ≤ n') (hs : ∀ y, 1 ≤ y → y ≤ n' → ∃ x, 1 ≤ x ∧ x ≤ n ∧ f x = y) :
    ∀ (es : List (Nat × Nat)) (R R' : Nat → Nat) (k : Nat), EdgesOk n es → RelK n f R R' → ways (wholeA n) es R k = ways (wholeA n') (es.map (mmN f)) R' k
  | [], R, R', k, _, h => by
    have : wholeA n R = wholeA n' R' := by
      rw [Bool.eq_iff_iff, wholeA_iff, wholeA_iff]
      constructor
      · intro hw y a b
        obtain ⟨x, hx, hx', rfl⟩ := hs y a b
        have := (h 1 x (Nat.le_refl _) hn hx hx').1 (hw x hx hx')
        rwa [h1] at this
      · intro hw x a b
        refine (h 1 x (Nat.le_refl _) hn a b).2 ?_
        rw [h1]; exact hw _ (hf x a b).1 (hf x a b).2
    simp only [List.map_nil, ways, this]
  | e :: es, R, R', 0, he, h => by
    simp only [List.map_cons, ways]; exact ways_rel h1 hn hf hs es R R' 0 (fun x hx => he x (by simp [hx])) h
  | e :: es, R, R', k + 1, he, h => by
    have he' : EdgesOk n es := fun x hx => he x (by simp [hx])
    have hee := he e (by simp)
    simp only [List.map_cons, ways]
    rw [ways_rel h1 hn hf hs es R R' (k + 1) he' h, ways_rel h1 hn hf hs es _ _ k he' (h.glueM hee.1 hee.2)]

/-- The number that a node has after the ends of g are made one. -/
def renN (g : Nat × Nat) (v : Nat) : Nat := if v = g.2 then g.1 else if g.2 < v then v - 1 else v
theorem renN_start {n : Nat} {g : Nat × Nat} (hg : 1 ≤ g.1 ∧ g.1 < g.2 ∧ g.2 ≤ n) : RelK n (renN g) (glue (fun x => x) g.1 g.2) (fun x => x) := by
  intro x y _ _ _ _
  rw [glue_eq]
  show x = y ∨ ((x = g.1 ∨ x = g.2) ∧ (y = g.1 ∨ y = g.2)) ↔ renN g x = renN g y
  unfold renN
  split <;> split <;> (try split) <;> (try split) <;> omega
theorem ways_made {n : Nat} {g : Nat × Nat} (hg : 1 ≤ g.1 ∧ g.1 < g.2 ∧ g.2 ≤ n) (es : List (Nat × Nat)) (he : EdgesOk n es) (k : Nat) :
    ways (wholeA n) es (glue (fun x => x) g.1 g.2) k = ways (wholeA (n - 1)) (es.map (mmN (renN g))) (fun x => x) k := by
  refine ways_rel ?_ (by omega) ?_ ?_ es _ _ k he (renN_start hg)
  · unfold renN; rw [if_neg (by omega), if_neg (by omega)]
  · intro x h1 h2; unfold renN; split
    · omega
    · split <;> omega
  · intro y h1 h2
    by_cases h : y < g.2
    · exact ⟨y, h1, by omega, by unfold renN; rw [if_neg (by omega), if_neg (by omega)]⟩
    · exact ⟨y + 1, by omega, by omega, by unfold renN; rw [if_neg (by omega), if_pos (by omega)]; omega⟩

/-- A row, and the row one later. -/
def tw (r : Nat → Nat) (k : Nat) : Nat := r k + if k = 0 then 0 else r (k - 1)
def twN : Nat → (Nat → Nat) → Nat → Nat
  | 0, r => r
  | c + 1, r => tw (twN c r)
def later (r : Nat → Nat) (k : Nat) : Nat := if k = 0 then 0 else r (k - 1)
theorem tw_add (a b : Nat → Nat) : tw (fun k => a k + later b k) = fun k => tw a k + later (tw b) k := by
  funext k
  unfold tw later
  by_cases h0 : k = 0
  · subst h0; simp
  · by_cases h1 : k = 1
    · subst h1; simp; omega
    · simp only [h0, if_false, show ¬ k - 1 = 0 by omega]; omega
theorem twN_add (a b : Nat → Nat) : ∀ c, twN c (fun k => a k + later b k) = fun k => twN c a k + later (twN c b) k
  | 0 => rfl
  | c + 1 => by simp only [twN, twN_add a b c, tw_add]
theorem ways_cons (q : (Nat → Nat) → Bool) (e : Nat × Nat) (es : List (Nat × Nat)) (R : Nat → Nat) : ways q (e :: es) R = fun k => ways q es R k + later (ways q es (glue R e.1 e.2)) k := by
  funext k
  cases k with
  | zero => simp [ways, later]
  | succ k => simp [ways, later]
/-- Edges with the same ends as one that is made one: each there or not. -/
theorem ways_same {q : (Nat → Nat) → Bool} (hq : Blind q) (g : Nat × Nat) : ∀ (es : List (Nat × Nat)) (R : Nat → Nat), R g.1 = R g.2 →
    ways q es R = twN (es.countP fun e => decide (e = g)) (ways q (es.filter fun e => !decide (e = g)) R)
  | [], R, _ => rfl
  | e :: es, R, h => by
    by_cases heq : e = g
    · subst heq
      have h1 : ways q (e :: es) R = tw (ways q es R) := by
        funext k
        cases k with
        | zero => simp [ways, tw]
        | succ k => rw [ways_loop hq h es k]; simp [tw]
      rw [h1, ways_same hq e es R h]
      simp [twN]
    · have h2 : (glue R e.1 e.2) g.1 = (glue R e.1 e.2) g.2 := glue_kept h _ _
      rw [ways_cons, ways_same hq g es R h, ways_same hq g es _ h2]
      have e1 : (e :: es).countP (fun e => decide (e = g)) = es.countP fun e => decide (e = g) := List.countP_cons_of_neg (by simpa using heq)
      have e2 : ((e :: es).filter fun e => !decide (e = g)) = e :: es.filter fun e => !decide (e = g) := List.filter_cons_of_pos (by simpa using heq)
      rw [e1, e2, ways_cons, twN_add]
end Go.Proofs.Ytdacfeebidhgnaa

/- Plain facts on counts of states, on: states without a ring are choices without a ring; choices. -/
namespace Go.Proofs.Ytdacfeebidhgnaa
set_option maxRecDepth 100000

/-- Each edge that is there joins two pieces when it comes. -/
def freeL : List (Nat × Nat) → (Nat → Bool) → (Nat → Nat) → Bool
  | [], _, _ => true
  | e :: es, T, R => (if T 0 = true then !decide (R e.1 = R e.2) else true) && freeL es (fun i => T (i + 1)) (if T 0 = true then glue R e.1 e.2 else R)
def cardL : List (Nat × Nat) → (Nat → Bool) → Nat
  | [], _ => 0
  | _ :: es, T => (if T 0 = true then 1 else 0) + cardL es (fun i => T (i + 1))
theorem card_first (T : Nat → Bool) : ∀ m, card T (m + 1) = (if T 0 = true then 1 else 0) + card (fun i => T (i + 1)) m
  | 0 => by simp [card]
  | m + 1 => by
    rw [card, card_first T m, card]; omega
theorem cardL_card : ∀ (es : List (Nat × Nat)) (T : Nat → Bool), cardL es T = card T es.length
  | [], _ => rfl
  | _ :: es, T => by rw [cardL, List.length_cons, card_first, cardL_card es]
theorem free_cnt {n : Nat} : ∀ (es : List (Nat × Nat)) (T : Nat → Bool) (R : Nat → Nat), EdgesOk n es → Good n R →
    cnt R n ≤ cnt (repL es T R) n + cardL es T ∧ (freeL es T R = true ↔ cnt (repL es T R) n + cardL es T = cnt R n)
  | [], _, R, _, _ => by simp [repL, cardL, freeL]
  | e :: es, T, R, he, hg => by
    have he' : EdgesOk n es := fun x hx => he x (by simp [hx])
    have h1 := he e (by simp)
    have hc := cnt_glue (a := e.1) hg.idem hg.range h1.2
    simp only [repL, cardL, freeL]
    cases ht : T 0 with
    | false =>
      have := free_cnt es (fun i => T (i + 1)) R he' hg
      simpa using this
    | true =>
      have h2 := free_cnt es (fun i => T (i + 1)) (glue R e.1 e.2) he' (hg.glue h1.1)
      simp only [if_true, Bool.and_eq_true, Bool.not_eq_true', decide_eq_false_iff_not]
      by_cases hj : R e.1 = R e.2
      · rw [if_pos hj] at hc
        refine ⟨by omega, ?_⟩
        constructor
        · intro h; exact absurd hj h.1
        · intro h; omega
      · rw [if_neg hj] at hc
        refine ⟨by omega, ?_⟩
        rw [h2.2]
        constructor
        · intro h; omega
        · intro h; exact ⟨hj, by omega⟩
/-- States without a ring with k edges there are choices of k edges without a ring. -/
theorem states_forests : ∀ (es : List (Nat × Nat)) (R : Nat → Nat) (k : Nat), es.length ≤ 10 →
    (List.range (2 ^ es.length)).countP (fun s => freeL es (fun i => s.testBit i) R && decide (pop s = k)) = forests es R k
  | [], R, k, _ => by
    simp only [List.length_nil, Nat.pow_zero, List.range_one, List.countP_cons, List.countP_nil, freeL, forests, pop_zero]
    by_cases hk : k = 0
    · subst hk; simp
    · simp [hk, show ¬ 0 = k from fun e => hk e.symm]
  | e :: es, R, k, h => by
    simp only [List.length_cons] at h ⊢
    have hp := pow_le10 (show es.length ≤ 10 by omega)
    rw [Nat.pow_succ, Nat.mul_comm, countP_double]
    have h1 : (List.range (2 ^ es.length)).countP (fun s => freeL (e :: es) (fun i => (2 * s).testBit i) R && decide (pop (2 * s) = k)) = forests es R k := by
      rw [← states_forests es R k (by omega)]
      refine countP_same fun s hs => ?_
      simp only [freeL, bit_even, pop_even s (by omega)]
      simp
    have h2 : ∀ j, k = j + 1 → (List.range (2 ^ es.length)).countP (fun s => freeL (e :: es) (fun i => (2 * s + 1).testBit i) R && decide (pop (2 * s + 1) = k)) = if R e.1 = R e.2 then 0 else forests es (glue R e.1 e.2) j := by
      intro j hj
      by_cases hr : R e.1 = R e.2
      · rw [if_pos hr, List.countP_eq_zero]
        intro s _
        simp [freeL, hr]
      · rw [if_neg hr, ← states_forests es (glue R e.1 e.2) j (by omega)]
        refine countP_same fun s hs => ?_
        simp only [freeL, bit_odd, pop_odd s (by omega), hj]
        simp [hr]
    rw [h1]
    cases k with
    | zero =>
      have h3 : (List.range (2 ^ es.length)).countP (fun s => freeL (e :: es) (fun i => (2 * s + 1).testBit i) R && decide (pop (2 * s + 1) = 0)) = 0 := by
        rw [List.countP_eq_zero]
        intro s hs
        have := List.mem_range.1 hs
        simp [pop_odd s (by omega)]
      rw [h3]; rfl
    | succ j => rw [h2 j rfl]; rfl
/-- One edge is no ring. -/
theorem forests_one : ∀ (es : List (Nat × Nat)) (R : Nat → Nat), forests es R 1 = es.countP fun e => !decide (R e.1 = R e.2)
  | [], _ => rfl
  | e :: es, R => by
    rw [forests, forests_one es R, forests_zero, List.countP_cons]
    by_cases h : R e.1 = R e.2
    · simp [h]
    · simp [h]
theorem forests_all {es : List (Nat × Nat)} (h : ∀ e ∈ es, e.1 ≠ e.2) : forests es (fun x => x) 1 = es.length := by
  rw [forests_one]
  exact List.countP_eq_length.2 fun e he => by simpa using h e he

theorem chs_zero (n : Nat) : chs n 0 = 1 := by cases n <;> rfl
theorem chs_more : ∀ n k, n < k → chs n k = 0
  | 0, k + 1, _ => rfl
  | n + 1, k + 1, h => by rw [chs, chs_more n (k + 1) (by omega), chs_more n k (by omega)]
  | n, 0, h => by omega
theorem chs_step : ∀ n k, chs n (k + 1) * (k + 1) = chs n k * (n - k)
  | 0, k => by
    rw [show chs 0 (k + 1) = 0 from rfl]; simp
  | n + 1, 0 => by
    have h := chs_step n 0
    have e : chs (n + 1) (0 + 1) = chs n (0 + 1) + chs n 0 := rfl
    rw [e, chs_zero, chs_zero]
    rw [chs_zero] at h
    simp only [Nat.zero_add, Nat.mul_one, Nat.one_mul, Nat.sub_zero] at h ⊢
    omega
  | n + 1, k + 1 => by
    have h1 := chs_step n (k + 1)
    have h2 := chs_step n k
    rw [chs, show chs (n + 1) (k + 1) = chs n (k + 1) + chs n k from rfl]
    generalize chs n (k + 1 + 1) = a at *
    generalize chs n (k + 1) = b at *
    generalize chs n k = c at *
    rw [Nat.add_sub_add_right, Nat.add_mul, Nat.add_mul, h1]
    by_cases hk : k + 1 ≤ n
    · have e1 : n - k = (n - (k + 1)) + 1 := by omega
      have e2 : b * (k + 1 + 1) = b * (k + 1) + b := Nat.mul_succ _ _
      have e3 : b * (n - k) = b * (n - (k + 1)) + b := by rw [e1, Nat.mul_succ]
      omega
    · have e1 : n - k = 0 := by omega
      have e2 : b * (k + 1 + 1) = b * (k + 1) + b := Nat.mul_succ _ _
      have hb : b * (k + 1) = 0 := by rw [h2, e1, Nat.mul_zero]
      have hb0 : b = 0 := by
        rcases Nat.mul_eq_zero.1 hb with h | h
        · exact h
        · omega
      subst hb0
      rw [e1]; simp
/-- All choices together. -/
def chsSum (n : Nat) : Nat → Nat
  | 0 => chs n 0
  | k + 1 => chsSum n k + chs n (k + 1)
theorem chsSum_succ (n : Nat) : ∀ k, chsSum (n + 1) (k + 1) = chsSum n (k + 1) + chsSum n k
  | 0 => by simp only [chsSum, chs, chs_zero]; omega
  | k + 1 => by
    rw [chsSum, chsSum_succ n k]
    simp only [chsSum, chs]
    omega
theorem chsSum_all : ∀ n, chsSum n n = 2 ^ n
  | 0 => rfl
  | n + 1 => by
    rw [chsSum_succ, chsSum, chs_more n (n + 1) (by omega), chsSum_all n, Nat.pow_succ]; omega
theorem chs_div (n k : Nat) : chs n k * (n - k) / (k + 1) = chs n (k + 1) := by
  rw [← chs_step]; exact Nat.mul_div_cancel _ (by omega)
theorem chs_pow : ∀ n k, chs n k ≤ 2 ^ n
  | n, 0 => by rw [chs_zero]; exact Nat.one_le_two_pow
  | 0, k + 1 => by simp [chs]
  | n + 1, k + 1 => by
    have h1 := chs_pow n (k + 1)
    have h2 := chs_pow n k
    rw [chs, Nat.pow_succ]; omega
theorem chs_bound {n : Nat} (h : n ≤ 20) (k : Nat) : chs n k ≤ 1048576 :=
  Nat.le_trans (chs_pow n k) (Nat.le_trans (Nat.pow_le_pow_right (by omega) h) (by decide : 2 ^ 20 ≤ 1048576))
theorem chs_mul (n i : Nat) (h : n ≤ 20) : chs n i * (n - i) ≤ 20971520 := by
  have h1 := chs_bound h i
  calc chs n i * (n - i) ≤ 1048576 * 20 := Nat.mul_le_mul h1 (by omega)
    _ = 20971520 := by decide
end Go.Proofs.Ytdacfeebidhgnaa

/- Plain facts on two rows of counts put together. -/
namespace Go.Proofs.Ytdacfeebidhgnaa
set_option maxRecDepth 100000

/-- For k: the sum of the products of both counts, over all ways to put k together from two. -/
def conv : List Int → List Int → Nat → Int
  | [], _, _ => 0
  | x :: a, b, k => x * b.getD k 0 + match k with
    | 0 => 0
    | k + 1 => conv a b k
theorem conv_nil (a : List Int) : ∀ k, conv a [] k = 0 := by
  induction a with
  | nil => intro k; rfl
  | cons x a ih => intro k; cases k <;> simp [conv, ih]
theorem conv_cons (y : Int) (b : List Int) : ∀ (a : List Int) (k : Nat), conv a (y :: b) k = y * a.getD k 0 + match k with
    | 0 => 0
    | k + 1 => conv a b k
  | [], k => by cases k <;> simp [conv]
  | x :: a, 0 => by simp [conv, Int.mul_comm]
  | x :: a, 1 => by
    simp only [conv, conv_cons y b a 0, List.getD_cons_succ]
    cases b <;> simp <;> omega
  | x :: a, k + 2 => by
    simp only [conv, conv_cons y b a (k + 1), List.getD_cons_succ]
    omega
theorem conv_comm : ∀ (a b : List Int) (k : Nat), conv a b k = conv b a k
  | [], b, k => by rw [conv_nil]; rfl
  | x :: a, b, k => by
    rw [conv_cons]
    cases k with
    | zero => simp [conv]
    | succ k => simp only [conv, conv_comm a b k]
theorem conv_one (a : List Int) (k : Nat) : conv a [1] k = a.getD k 0 := by
  rw [conv_cons]
  cases k with
  | zero => simp
  | succ k => simp [conv_nil]
theorem conv_more : ∀ (a b : List Int) (k : Nat), a.length + b.length ≤ k + 1 → conv a b k = 0
  | [], _, _, _ => rfl
  | x :: a, b, 0, h => by
    have hb : b = [] := by cases b with
      | nil => rfl
      | cons y b => simp at h; omega
    subst hb; simp [conv]
  | x :: a, b, k + 1, h => by
    simp only [List.length_cons] at h
    have h1 : b.getD (k + 1) 0 = 0 := by rw [List.getD_eq_getElem?_getD, List.getElem?_eq_none (by omega)]; rfl
    simp only [conv, h1, conv_more a b k (by omega)]
    simp
def sumI (r : Nat → Int) : Nat → Int
  | 0 => 0
  | n + 1 => sumI r n + r n
theorem sumI_add (r s : Nat → Int) : ∀ n, sumI (fun k => r k + s k) n = sumI r n + sumI s n
  | 0 => rfl
  | n + 1 => by simp only [sumI, sumI_add r s n]; omega
theorem sumI_mul (x : Int) (r : Nat → Int) : ∀ n, sumI (fun k => x * r k) n = x * sumI r n
  | 0 => by simp [sumI]
  | n + 1 => by simp only [sumI, sumI_mul x r n, Int.mul_add]
theorem sumI_first (r : Nat → Int) : ∀ n, sumI r (n + 1) = r 0 + sumI (fun k => r (k + 1)) n
  | 0 => by simp [sumI]
  | n + 1 => by rw [sumI, sumI_first r n, sumI]; omega
theorem sumI_zero {r : Nat → Int} : ∀ n, (∀ k, k < n → r k = 0) → sumI r n = 0
  | 0, _ => rfl
  | n + 1, h => by rw [sumI, sumI_zero n (fun k hk => h k (by omega)), h n (by omega)]; rfl
theorem sumI_more {r : Nat → Int} (n : Nat) : ∀ m, (∀ k, n ≤ k → r k = 0) → sumI r (n + m) = sumI r n
  | 0, _ => rfl
  | m + 1, h => by rw [← Nat.add_assoc, sumI, sumI_more n m h, h (n + m) (by omega)]; omega
theorem sumI_list : ∀ (b : List Int) (n : Nat), b.length ≤ n → sumI (fun k => b.getD k 0) n = b.sum
  | [], n, _ => by simpa using sumI_zero (r := fun k => ([] : List Int).getD k 0) n (fun k _ => by simp)
  | y :: b, 0, h => by simp at h
  | y :: b, n + 1, h => by
    rw [sumI_first]
    simp only [List.getD_cons_succ, List.getD_cons_zero, List.sum_cons]
    rw [sumI_list b n (by simpa using h)]
/-- All counts together are the product of those of both rows. -/
theorem conv_sum : ∀ (a b : List Int) (n : Nat), a.length + b.length ≤ n + 1 → sumI (conv a b) n = a.sum * b.sum
  | [], b, n, _ => by
    simp only [List.sum_nil, Int.zero_mul]
    exact sumI_zero n fun k _ => rfl
  | x :: a, b, n, h => by
    simp only [List.length_cons] at h
    have h0 : conv (x :: a) b = fun k => x * b.getD k 0 + (match k with
      | 0 => 0
      | k + 1 => conv a b k) := by funext k; rfl
    rw [h0, sumI_add, sumI_mul, sumI_list b n (by omega), List.sum_cons, Int.add_mul]
    congr 1
    cases n with
    | zero =>
      have : b = [] := by cases b with
        | nil => rfl
        | cons y b => simp only [List.length_cons] at h; omega
      subst this
      simp [sumI]
    | succ n =>
      rw [sumI_first]
      simp only [Int.zero_add]
      exact conv_sum a b n (by omega)
/-- With the row of twice 1: the row, and the row one later. -/
theorem conv_tw (a : List Int) (k : Nat) : conv a [1, 1] k = a.getD k 0 + match k with
    | 0 => 0
    | k + 1 => a.getD k 0 := by
  rw [conv_cons]
  cases k with
  | zero => simp
  | succ k => simp [conv_one]
end Go.Proofs.Ytdacfeebidhgnaa

/- Plain facts on chances: choices weighed by p parts for an edge that is there and r parts for one that is not. -/
namespace Go.Proofs.Ytdacfeebidhgnaa
set_option maxRecDepth 100000

def wts (q : (Nat → Nat) → Bool) (p r : Nat) : List (Nat × Nat) → (Nat → Nat) → Nat
  | [], R => if q R = true then 1 else 0
  | e :: es, R => r * wts q p r es R + p * wts q p r es (glue R e.1 e.2)
def sumN (f : Nat → Nat) : Nat → Nat
  | 0 => 0
  | n + 1 => sumN f n + f n
theorem sumN_congr {f g : Nat → Nat} : ∀ n, (∀ k, k < n → f k = g k) → sumN f n = sumN g n
  | 0, _ => rfl
  | n + 1, h => by rw [sumN, sumN, sumN_congr n (fun k hk => h k (by omega)), h n (by omega)]
theorem sumN_add (f g : Nat → Nat) : ∀ n, sumN (fun k => f k + g k) n = sumN f n + sumN g n
  | 0 => rfl
  | n + 1 => by simp only [sumN, sumN_add f g n]; omega
theorem sumN_mul (c : Nat) (f : Nat → Nat) : ∀ n, sumN (fun k => c * f k) n = c * sumN f n
  | 0 => rfl
  | n + 1 => by simp only [sumN, sumN_mul c f n, Nat.mul_add]
theorem sumN_first (f : Nat → Nat) : ∀ n, sumN f (n + 1) = f 0 + sumN (fun k => f (k + 1)) n
  | 0 => by simp [sumN]
  | n + 1 => by rw [sumN, sumN_first f n, sumN]; omega
/-- Told by counts. -/
theorem wts_ways (q : (Nat → Nat) → Bool) (p r : Nat) : ∀ (es : List (Nat × Nat)) (R : Nat → Nat),
    wts q p r es R = sumN (fun k => ways q es R k * (p ^ k * r ^ (es.length - k))) (es.length + 1)
  | [], R => by simp [wts, sumN, ways]
  | e :: es, R => by
    rw [wts, wts_ways q p r es R, wts_ways q p r es (glue R e.1 e.2), List.length_cons, sumN_first (fun k => ways q (e :: es) R k * (p ^ k * r ^ (es.length + 1 - k)))]
    have h1 : sumN (fun k => ways q (e :: es) R (k + 1) * (p ^ (k + 1) * r ^ (es.length + 1 - (k + 1)))) (es.length + 1) =
        sumN (fun k => ways q es R (k + 1) * (p ^ (k + 1) * r ^ (es.length - k))) (es.length + 1) + p * sumN (fun k => ways q es (glue R e.1 e.2) k * (p ^ k * r ^ (es.length - k))) (es.length + 1) := by
      rw [← sumN_mul, ← sumN_add]
      refine sumN_congr _ fun k _ => ?_
      rw [ways, Nat.add_sub_add_right, Nat.add_mul]
      congr 1
      rw [Nat.pow_succ]
      simp only [Nat.mul_comm, Nat.mul_assoc]
    have h2 : sumN (fun k => ways q es R (k + 1) * (p ^ (k + 1) * r ^ (es.length - k))) (es.length + 1) = r * sumN (fun k => ways q es R (k + 1) * (p ^ (k + 1) * r ^ (es.length - (k + 1)))) es.length := by
      rw [sumN, ways_more q es R (es.length + 1) (by omega), Nat.zero_mul, Nat.add_zero, ← sumN_mul]
      refine sumN_congr _ fun k hk => ?_
      rw [show es.length - k = (es.length - (k + 1)) + 1 by omega, Nat.pow_succ (n := r)]
      simp only [Nat.mul_comm, Nat.mul_left_comm, Nat.mul_assoc]
    rw [h1, h2, sumN_first (fun k => ways q es R k * (p ^ k * r ^ (es.length - k))) es.length, Nat.mul_add]
    have h3 : ways q (e :: es) R 0 * (p ^ 0 * r ^ (es.length + 1 - 0)) = r * (ways q es R 0 * (p ^ 0 * r ^ (es.length - 0))) := by
      rw [ways, Nat.sub_zero, Nat.sub_zero, Nat.pow_succ]
      simp only [Nat.mul_comm, Nat.mul_assoc]
    rw [h3]; omega
theorem wts_ker {q : (Nat → Nat) → Bool} (hq : Blind q) (p r : Nat) (es : List (Nat × Nat)) {R R' : Nat → Nat} (h : Ker R R') : wts q p r es R = wts q p r es R' := by
  rw [wts_ways, wts_ways]
  exact sumN_congr _ fun k _ => by rw [ways_ker hq es R R' k h]
/-- An edge is there, or not, with its chance: wherever it stands. -/
theorem wts_move {q : (Nat → Nat) → Bool} (hq : Blind q) (p r : Nat) (e : Nat × Nat) (l2 : List (Nat × Nat)) : ∀ (l1 : List (Nat × Nat)) (R : Nat → Nat),
    wts q p r (l1 ++ e :: l2) R = r * wts q p r (l1 ++ l2) R + p * wts q p r (l1 ++ l2) (glue R e.1 e.2)
  | [], R => rfl
  | f :: l1, R => by
    simp only [List.cons_append, wts]
    rw [wts_move hq p r e l2 l1 R, wts_move hq p r e l2 l1 (glue R f.1 f.2), wts_ker hq p r (l1 ++ l2) (Ker.comm R f.1 f.2 e.1 e.2)]
    simp only [Nat.mul_add, Nat.mul_left_comm p r]
    omega
theorem wts_up {q : (Nat → Nat) → Bool} (hq : Blind q) (hu : Up q) (p r : Nat) (a b : Nat) : ∀ (es : List (Nat × Nat)) (R : Nat → Nat), wts q p r es R ≤ wts q p r es (glue R a b)
  | [], R => by
    simp only [wts]
    split
    · rename_i h; rw [if_pos (hu R a b h)]; exact Nat.le_refl _
    · exact Nat.zero_le _
  | e :: es, R => by
    simp only [wts]
    have h1 := wts_up hq hu p r a b es R
    have h2 := wts_up hq hu p r a b es (glue R e.1 e.2)
    rw [wts_ker hq p r es (Ker.comm R e.1 e.2 a b)] at h2
    exact Nat.add_le_add (Nat.mul_le_mul_left r h1) (Nat.mul_le_mul_left p h2)
/-- One part more for each edge: no fewer ways. -/
theorem wts_part {q : (Nat → Nat) → Bool} (hq : Blind q) (hu : Up q) (p r : Nat) : ∀ (es : List (Nat × Nat)) (R : Nat → Nat), wts q p (r + 1) es R ≤ wts q (p + 1) r es R
  | [], R => Nat.le_refl _
  | e :: es, R => by
    simp only [wts]
    have h1 := wts_part hq hu p r es R
    have h2 := wts_part hq hu p r es (glue R e.1 e.2)
    have h3 := wts_up hq hu (p + 1) r e.1 e.2 es R
    have m1 := Nat.mul_le_mul_left (r + 1) h1
    have m2 := Nat.mul_le_mul_left p h2
    have e1 : (r + 1) * wts q (p + 1) r es R = r * wts q (p + 1) r es R + wts q (p + 1) r es R := Nat.succ_mul _ _
    have e2 : (p + 1) * wts q (p + 1) r es (glue R e.1 e.2) = p * wts q (p + 1) r es (glue R e.1 e.2) + wts q (p + 1) r es (glue R e.1 e.2) := Nat.succ_mul _ _
    omega
theorem wts_all (q : (Nat → Nat) → Bool) (p r : Nat) : ∀ (es : List (Nat × Nat)) (R : Nat → Nat), wts q p r es R ≤ (p + r) ^ es.length
  | [], R => by simp only [wts]; split <;> simp
  | e :: es, R => by
    simp only [wts, List.length_cons, Nat.pow_succ]
    have m1 := Nat.mul_le_mul_left r (wts_all q p r es R)
    have m2 := Nat.mul_le_mul_left p (wts_all q p r es (glue R e.1 e.2))
    have : (p + r) ^ es.length * (p + r) = p * (p + r) ^ es.length + r * (p + r) ^ es.length := by rw [Nat.mul_add, Nat.mul_comm _ p, Nat.mul_comm _ r]
    omega
end Go.Proofs.Ytdacfeebidhgnaa

/- Plain facts on pivots: all edges together, each with the choices of the others. -/
namespace Go.Proofs.Ytdacfeebidhgnaa
set_option maxRecDepth 100000

/-- The sum over all edges, each with the list of the others. -/
def sumR (f : List (Nat × Nat) → Nat × Nat → Nat) : List (Nat × Nat) → Nat
  | [] => 0
  | e :: l => f l e + sumR (fun rest x => f (e :: rest) x) l
theorem sumR_add : ∀ (l : List (Nat × Nat)) (f g : List (Nat × Nat) → Nat × Nat → Nat), sumR (fun rest x => f rest x + g rest x) l = sumR f l + sumR g l
  | [], _, _ => rfl
  | e :: l, f, g => by
    simp only [sumR]
    rw [sumR_add l (fun rest x => f (e :: rest) x) (fun rest x => g (e :: rest) x)]
    omega
theorem sumR_const (c : Nat) : ∀ l : List (Nat × Nat), sumR (fun _ _ => c) l = l.length * c
  | [] => by simp [sumR]
  | e :: l => by simp only [sumR, sumR_const c l, List.length_cons, Nat.succ_mul]; omega
theorem sumR_same {f g : List (Nat × Nat) → Nat × Nat → Nat} (h : ∀ rest x, f rest x = g rest x) (l : List (Nat × Nat)) : sumR f l = sumR g l := by
  have : f = g := by funext rest x; exact h rest x
  rw [this]
/-- Choices of k edges: each lacks all others. -/
theorem ways_lack (q : (Nat → Nat) → Bool) : ∀ (l : List (Nat × Nat)) (R : Nat → Nat) (k : Nat), sumR (fun rest _ => ways q rest R k) l = (l.length - k) * ways q l R k
  | [], R, k => by simp [sumR]
  | e :: l, R, 0 => by
    simp only [sumR, ways, ways_lack q l R 0, List.length_cons, Nat.sub_zero, Nat.succ_mul]
    omega
  | e :: l, R, k + 1 => by
    simp only [sumR, ways]
    rw [sumR_add l (fun rest _ => ways q rest R (k + 1)) (fun rest _ => ways q rest (glue R e.1 e.2) k), ways_lack q l R (k + 1), ways_lack q l (glue R e.1 e.2) k, List.length_cons, Nat.add_sub_add_right, Nat.mul_add]
    by_cases h : k + 1 ≤ l.length
    · have e1 : l.length - k = (l.length - (k + 1)) + 1 := by omega
      have e2 : (l.length - k) * ways q l R (k + 1) = (l.length - (k + 1)) * ways q l R (k + 1) + ways q l R (k + 1) := by rw [e1, Nat.succ_mul]
      omega
    · rw [ways_more q l R (k + 1) (by omega)]; simp
theorem sumR_move {q : (Nat → Nat) → Bool} (hq : Blind q) (R : Nat → Nat) (k : Nat) : ∀ (l pre : List (Nat × Nat)),
    sumR (fun rest x => ways q (pre ++ rest) R (k + 1) + ways q (pre ++ rest) (glue R x.1 x.2) k) l = l.length * ways q (pre ++ l) R (k + 1)
  | [], _ => by simp [sumR]
  | e :: l, pre => by
    simp only [sumR]
    rw [← ways_move hq e l pre R k, List.length_cons, Nat.succ_mul]
    have h := sumR_move hq R k l (pre ++ [e])
    simp only [List.append_assoc, List.singleton_append] at h
    rw [h]; omega
/-- Choices of one edge more: each is one of each of its edges and the others. -/
theorem ways_hold {q : (Nat → Nat) → Bool} (hq : Blind q) (l : List (Nat × Nat)) (R : Nat → Nat) (k : Nat) :
    sumR (fun rest x => ways q rest (glue R x.1 x.2) k) l = (k + 1) * ways q l R (k + 1) := by
  have h1 := sumR_move hq R k l []
  simp only [List.nil_append] at h1
  rw [sumR_add l (fun rest _ => ways q rest R (k + 1)) (fun rest x => ways q rest (glue R x.1 x.2) k), ways_lack q l R (k + 1)] at h1
  by_cases h : k + 1 ≤ l.length
  · have e1 : l.length * ways q l R (k + 1) = (l.length - (k + 1)) * ways q l R (k + 1) + (k + 1) * ways q l R (k + 1) := by
      rw [← Nat.add_mul]; congr 1; omega
    omega
  · rw [ways_more q l R (k + 1) (by omega)] at h1 ⊢
    simp at h1 ⊢; exact h1
end Go.Proofs.Ytdacfeebidhgnaa

/- As many paths apart as the thinnest cut has edges: plain facts (edges by numbers in a list, R tells what is joined already). -/
namespace Go.Proofs.Ytdacfeebidhgnaa
set_option maxRecDepth 100000

section
variable (E : Nat → Nat × Nat)
/-- The edges of P, over R, join a and b. -/
def Joins (R : Nat → Nat) (P : List Nat) (a b : Nat) : Prop := ∀ F : Nat → Nat, Sub R F → (∀ i ∈ P, F (E i).1 = F (E i).2) → F a = F b
def splitB (X : Nat → Bool) (i : Nat) : Bool := X (E i).1 != X (E i).2
/-- A side with a and without b. -/
structure Side (R : Nat → Nat) (X : Nat → Bool) (a b : Nat) : Prop where
  resp : ∀ x y, R x = R y → X x = X y
  here : X a = true
  there : X b = false
def Apart (L : List Nat) (R : Nat → Nat) (a b k : Nat) : Prop :=
  ∃ Ps : List (List Nat), Ps.length = k ∧ (∀ P ∈ Ps, Joins E R P a b ∧ ∀ i ∈ P, i ∈ L) ∧ Ps.Pairwise (fun P Q => ∀ i ∈ P, i ∉ Q)
end
section
variable {E : Nat → Nat × Nat}
theorem Apart.more {L L' : List Nat} {R : Nat → Nat} {a b k : Nat} (h : Apart E L R a b k) (hs : ∀ i ∈ L, i ∈ L') : Apart E L' R a b k := by
  obtain ⟨Ps, h1, h2, h3⟩ := h
  exact ⟨Ps, h1, fun P hP => ⟨(h2 P hP).1, fun i hi => hs i ((h2 P hP).2 i hi)⟩, h3⟩
theorem Apart.add {L L' : List Nat} {R : Nat → Nat} {a b k : Nat} (h : Apart E L R a b k) {P : List Nat} (hs : ∀ i ∈ L, i ∈ L') (hj : Joins E R P a b) (hP : ∀ i ∈ P, i ∈ L' ∧ i ∉ L) : Apart E L' R a b (k + 1) := by
  obtain ⟨Ps, h1, h2, h3⟩ := h
  refine ⟨P :: Ps, by simp [h1], ?_, ?_⟩
  · intro Q hQ
    rcases List.mem_cons.1 hQ with rfl | hQ
    · exact ⟨hj, fun i hi => (hP i hi).1⟩
    · exact ⟨(h2 Q hQ).1, fun i hi => hs i ((h2 Q hQ).2 i hi)⟩
  · refine List.pairwise_cons.2 ⟨fun Q hQ i hi hi' => (hP i hi).2 ((h2 Q hQ).2 i hi'), h3⟩
theorem countP_erase_split {L : List Nat} {e : Nat} (he : e ∈ L) (p : Nat → Bool) : L.countP p = (L.erase e).countP p + if p e = true then 1 else 0 := by
  have h := List.perm_cons_erase he
  rw [h.countP_eq, List.countP_cons]
theorem countP_eq_of_le {L : List Nat} {p q : Nat → Bool} (hpq : ∀ i ∈ L, p i = true → q i = true) (hle : L.countP q ≤ L.countP p) : ∀ i ∈ L, q i = true → p i = true := by
  induction L with
  | nil => intro i hi; cases hi
  | cons a L ih =>
    have hm : L.countP p ≤ L.countP q := List.countP_mono_left fun i hi => hpq i (by simp [hi])
    simp only [List.countP_cons] at hle
    have ha := hpq a (by simp)
    intro i hi hq
    rcases List.mem_cons.1 hi with rfl | hi
    · cases hp : p i with
      | true => rfl
      | false => rw [hp, hq] at hle; simp at hle; omega
    · refine ih (fun j hj => hpq j (by simp [hj])) ?_ i hi hq
      cases hp : p a with
      | true => rw [hp, ha hp] at hle; simpa using hle
      | false =>
        rw [hp] at hle
        cases hqa : q a <;> rw [hqa] at hle <;> simp at hle <;> omega
theorem Joins.hits {R : Nat → Nat} {P : List Nat} {a b : Nat} (h : Joins E R P a b) {X : Nat → Bool} (hX : Side R X a b) : ∃ i ∈ P, splitB E X i = true := by
  by_cases hno : ∃ i ∈ P, splitB E X i = true
  · exact hno
  · have hF := h (fun v => if X v = true then 1 else 0) (fun x y hxy => by simp only [hX.resp x y hxy]) (fun i hi => by
      have : splitB E X i = false := by
        cases hs : splitB E X i with
        | false => rfl
        | true => exact absurd ⟨i, hi, hs⟩ hno
      have : X (E i).1 = X (E i).2 := by simpa [splitB] using this
      simp only [this])
    simp [hX.here, hX.there] at hF
theorem apart_eq {Ps : List (List Nat)} (h : Ps.Pairwise (fun P Q => ∀ i ∈ P, i ∉ Q)) : ∀ P ∈ Ps, ∀ Q ∈ Ps, ∀ i, i ∈ P → i ∈ Q → P = Q := by
  induction Ps with
  | nil => intro P hP; cases hP
  | cons A Ps ih =>
    have h' := List.pairwise_cons.1 h
    intro P hP Q hQ i hi hi'
    rcases List.mem_cons.1 hP with e1 | hP1 <;> rcases List.mem_cons.1 hQ with e2 | hQ1
    · rw [e1, e2]
    · exact absurd hi' (h'.1 Q hQ1 i (e1 ▸ hi))
    · exact absurd hi (h'.1 P hP1 i (e2 ▸ hi'))
    · exact ih h'.2 P hP1 Q hQ1 i hi hi'
/-- k paths apart over a cut of k edges: each edge of the cut is on just one. -/
theorem apart_cut {Ps : List (List Nat)} {C : List Nat} (hl : Ps.length = C.length) (hd : Ps.Pairwise (fun P Q => ∀ i ∈ P, i ∉ Q)) (hh : ∀ P ∈ Ps, ∃ i ∈ P, i ∈ C) :
    (∀ c ∈ C, ∃ P ∈ Ps, c ∈ P) ∧ ∀ P ∈ Ps, ∀ c ∈ C, ∀ c' ∈ C, c ∈ P → c' ∈ P → c = c' := by
  have hpick : ∃ h : List Nat → Nat, ∀ P ∈ Ps, h P ∈ P ∧ h P ∈ C := by
    refine ⟨fun P => if hP : ∃ i ∈ P, i ∈ C then Classical.choose hP else 0, fun P hP => ?_⟩
    have := hh P hP
    simp only [dif_pos this]
    exact Classical.choose_spec this
  obtain ⟨h, hs⟩ := hpick
  have hnd : (Ps.map h).Nodup := by
    rw [List.Nodup, List.pairwise_map]
    refine List.Pairwise.imp_of_mem ?_ hd
    intro P Q hP hQ hPQ e
    exact hPQ (h P) (hs P hP).1 (e ▸ (hs Q hQ).1)
  have hall : ∀ c ∈ C, c ∈ Ps.map h := by
    intro c hc
    by_cases hm : c ∈ Ps.map h
    · exact hm
    · have hlen := inj_length (F := fun x => x) (Ps.map h) (C.erase c) hnd (fun x hx => by
        obtain ⟨P, hP, rfl⟩ := List.mem_map.1 hx
        exact (List.mem_erase_of_ne (fun e => hm (by rw [← e]; exact hx))).2 (hs P hP).2) (fun x _ y _ e => e)
      rw [List.length_map, List.length_erase_of_mem hc, hl] at hlen
      have := List.length_pos_of_mem hc
      omega
  have hown : ∀ c ∈ C, ∀ P ∈ Ps, c ∈ P → h P = c := by
    intro c hc P hP hcP
    obtain ⟨Q, hQ, hQc⟩ := List.mem_map.1 (hall c hc)
    have : P = Q := apart_eq hd P hP Q hQ c hcP (hQc ▸ (hs Q hQ).1)
    rw [this]; exact hQc
  refine ⟨fun c hc => ?_, fun P hP c hc c' hc' h1 h2 => (hown c hc P hP h1).symm.trans (hown c' hc' P hP h2)⟩
  obtain ⟨Q, hQ, hQc⟩ := List.mem_map.1 (hall c hc)
  exact ⟨Q, hQ, hQc ▸ (hs Q hQ).1⟩
def overIn (R : Nat → Nat) (X : Nat → Bool) (v : Nat) : Nat := if X v = true then R v + 1 else 0
def overOut (R : Nat → Nat) (X : Nat → Bool) (v : Nat) : Nat := if X v = true then 0 else R v + 1
theorem split_iff (X : Nat → Bool) (i : Nat) : splitB E X i = true ↔ X (E i).1 ≠ X (E i).2 := by simp [splitB]
/-- Paths on both sides of a cut, put together. -/
theorem apart_glue {L : List Nat} (hL : L.Nodup) {R : Nat → Nat} {a b k : Nat} {X : Nat → Bool} (hX : Side R X a b) (hk : L.countP (splitB E X) = k)
    (h1 : Apart E (L.filter fun i => X (E i).1 || X (E i).2) (overIn R X) a b k) (h2 : Apart E (L.filter fun i => !(X (E i).1 && X (E i).2)) (overOut R X) a b k) : Apart E L R a b k := by
  obtain ⟨P1, l1, g1, d1⟩ := h1
  obtain ⟨P2, l2, g2, d2⟩ := h2
  have hCl : (L.filter (splitB E X)).length = k := by rw [← List.countP_eq_length_filter, hk]
  have hCn : (L.filter (splitB E X)).Nodup := hL.filter _
  have s1 : Side (overIn R X) X a b := ⟨fun x y h => by
    unfold overIn at h
    cases hx : X x <;> cases hy : X y <;> simp [hx, hy] at h ⊢, hX.here, hX.there⟩
  have s2 : Side (overOut R X) X a b := ⟨fun x y h => by
    unfold overOut at h
    cases hx : X x <;> cases hy : X y <;> simp [hx, hy] at h ⊢, hX.here, hX.there⟩
  have m1 : ∀ P ∈ P1, ∃ i ∈ P, i ∈ L.filter (splitB E X) := fun P hP => by
    obtain ⟨i, hi, hs⟩ := (g1 P hP).1.hits s1
    exact ⟨i, hi, List.mem_filter.2 ⟨(List.mem_filter.1 ((g1 P hP).2 i hi)).1, hs⟩⟩
  have m2 : ∀ P ∈ P2, ∃ i ∈ P, i ∈ L.filter (splitB E X) := fun P hP => by
    obtain ⟨i, hi, hs⟩ := (g2 P hP).1.hits s2
    exact ⟨i, hi, List.mem_filter.2 ⟨(List.mem_filter.1 ((g2 P hP).2 i hi)).1, hs⟩⟩
  obtain ⟨a1, u1⟩ := apart_cut (l1.trans hCl.symm) d1 m1
  obtain ⟨a2, u2⟩ := apart_cut (l2.trans hCl.symm) d2 m2
  have pick : ∀ {Ps : List (List Nat)}, (∀ c ∈ L.filter (splitB E X), ∃ P ∈ Ps, c ∈ P) → ∃ p : Nat → List Nat, ∀ c ∈ L.filter (splitB E X), p c ∈ Ps ∧ c ∈ p c := by
    intro Ps h
    refine ⟨fun c => if hc : ∃ P ∈ Ps, c ∈ P then Classical.choose hc else [], fun c hc => ?_⟩
    have := h c hc
    simp only [dif_pos this]
    exact Classical.choose_spec this
  obtain ⟨p1, hp1⟩ := pick a1
  obtain ⟨p2, hp2⟩ := pick a2
  refine ⟨(L.filter (splitB E X)).map fun c => p1 c ++ p2 c, by rw [List.length_map, hCl], ?_, ?_⟩
  · intro P hP
    obtain ⟨c, hc, rfl⟩ := List.mem_map.1 hP
    obtain ⟨q1, c1⟩ := hp1 c hc
    obtain ⟨q2, c2⟩ := hp2 c hc
    refine ⟨?_, ?_⟩
    · intro F hF hE
      have hc0 := (split_iff X c).1 (List.mem_filter.1 hc).2
      have hFc := hE c (by simp [c1])
      obtain ⟨x, hx, hcx⟩ : ∃ x, F x = F (E c).1 ∧ X x = true := by
        cases h : X (E c).1 with
        | true => exact ⟨_, rfl, h⟩
        | false =>
          cases h' : X (E c).2 with
          | true => exact ⟨_, hFc.symm, h'⟩
          | false => exact absurd (h.trans h'.symm) hc0
      have k1 := (g1 _ q1).1 (fun v => if X v = true then F v else F (E c).1) (fun y z h => by
        unfold overIn at h
        cases hy : X y <;> cases hz : X z <;> simp [hy, hz] at h ⊢
        exact hF y z h) (fun i hi => by
        have hiL := List.mem_filter.1 ((g1 _ q1).2 i hi)
        have hFi := hE i (by simp [hi])
        cases hi1 : X (E i).1 <;> cases hi2 : X (E i).2
        · simp [hi1, hi2] at hiL
        · have : i = c := u1 _ q1 i (List.mem_filter.2 ⟨hiL.1, by simp [splitB, hi1, hi2]⟩) c hc hi c1
          subst this; simp [hFi]
        · have : i = c := u1 _ q1 i (List.mem_filter.2 ⟨hiL.1, by simp [splitB, hi1, hi2]⟩) c hc hi c1
          subst this; simp
        · simp [hFi])
      have k2 := (g2 _ q2).1 (fun v => if X v = true then F (E c).1 else F v) (fun y z h => by
        unfold overOut at h
        cases hy : X y <;> cases hz : X z <;> simp [hy, hz] at h ⊢
        exact hF y z h) (fun i hi => by
        have hiL := List.mem_filter.1 ((g2 _ q2).2 i hi)
        have hFi := hE i (by simp [hi])
        cases hi1 : X (E i).1 <;> cases hi2 : X (E i).2
        · simp [hFi]
        · have : i = c := u2 _ q2 i (List.mem_filter.2 ⟨hiL.1, by simp [splitB, hi1, hi2]⟩) c hc hi c2
          subst this; simp
        · have : i = c := u2 _ q2 i (List.mem_filter.2 ⟨hiL.1, by simp [splitB, hi1, hi2]⟩) c hc hi c2
          subst this; simp [hFi]
        · simp [hi1, hi2] at hiL)
      simp only [hX.here, hX.there, if_true] at k1 k2
      simp at k1 k2
      exact k1.trans k2
    · intro i hi
      rcases List.mem_append.1 hi with hi | hi
      · exact (List.mem_filter.1 ((g1 _ q1).2 i hi)).1
      · exact (List.mem_filter.1 ((g2 _ q2).2 i hi)).1
  · rw [List.pairwise_map]
    refine List.Pairwise.imp_of_mem ?_ hCn
    intro c c' hc hc' hne i hi hi'
    obtain ⟨q1, c1⟩ := hp1 c hc
    obtain ⟨q2, c2⟩ := hp2 c hc
    obtain ⟨r1, e1⟩ := hp1 c' hc'
    obtain ⟨r2, e2⟩ := hp2 c' hc'
    have cutof : ∀ P ∈ P1, ∀ Q ∈ P2, i ∈ P → i ∈ Q → i ∈ L.filter (splitB E X) := by
      intro P hP Q hQ h h'
      have x1 := List.mem_filter.1 ((g1 P hP).2 i h)
      have x2 := List.mem_filter.1 ((g2 Q hQ).2 i h')
      refine List.mem_filter.2 ⟨x1.1, ?_⟩
      have y1 := x1.2
      have y2 := x2.2
      unfold splitB
      cases hi1 : X (E i).1 <;> cases hi2 : X (E i).2 <;> simp [hi1, hi2] at y1 y2 ⊢
    rcases List.mem_append.1 hi with hi | hi <;> rcases List.mem_append.1 hi' with hi' | hi'
    · have e := apart_eq d1 _ q1 _ r1 i hi hi'
      exact hne (u1 _ q1 c hc c' hc' c1 (e ▸ e1))
    · have hic := cutof _ q1 _ r2 hi hi'
      exact hne ((u1 _ q1 c hc i hic c1 hi).trans (u2 _ r2 i hic c' hc' hi' e2))
    · have hic := cutof _ r1 _ q2 hi' hi
      exact hne ((u2 _ q2 c hc i hic c2 hi).trans (u1 _ r1 i hic c' hc' hi' e1))
    · have e := apart_eq d2 _ q2 _ r2 i hi hi'
      exact hne (u2 _ q2 c hc c' hc' c2 (e ▸ e2))
theorem erase_cut {L : List Nat} {e : Nat} (he : e ∈ L) (X : Nat → Bool) : L.countP (splitB E X) = (L.erase e).countP (splitB E X) + if splitB E X e = true then 1 else 0 := countP_erase_split he _
/-- The two ends of an edge, the one in X first. -/
def EndsAre (E : Nat → Nat × Nat) (i p q : Nat) : Prop := ((E i).1 = p ∧ (E i).2 = q) ∨ ((E i).1 = q ∧ (E i).2 = p)
theorem EndsAre.same {i p q : Nat} (h : EndsAre E i p q) {F : Nat → Nat} (hF : F (E i).1 = F (E i).2) : F p = F q := by
  rcases h with ⟨h1, h2⟩ | ⟨h1, h2⟩
  · rw [← h1, ← h2]; exact hF
  · rw [← h1, ← h2]; exact hF.symm
theorem EndsAre.split {i p q : Nat} (h : EndsAre E i p q) (X : Nat → Bool) : splitB E X i = (X p != X q) := by
  unfold splitB
  rcases h with ⟨h1, h2⟩ | ⟨h1, h2⟩
  · rw [h1, h2]
  · rw [h1, h2]; cases X p <;> cases X q <;> rfl
theorem split_ends {X : Nat → Bool} {i : Nat} (h : splitB E X i = true) : ∃ p q, X p = true ∧ X q = false ∧ EndsAre E i p q := by
  cases h1 : X (E i).1 <;> cases h2 : X (E i).2
  · simp [splitB, h1, h2] at h
  · exact ⟨_, _, h2, h1, .inr ⟨rfl, rfl⟩⟩
  · exact ⟨_, _, h1, h2, .inl ⟨rfl, rfl⟩⟩
  · simp [splitB, h1, h2] at h
theorem filter_same {L : List Nat} {p q : Nat → Bool} (h : ∀ i ∈ L, q i = true → p i = true) : (L.filter p).countP q = L.countP q := by
  rw [List.countP_filter]
  refine List.countP_congr fun i hi => ?_
  simp only [Bool.and_eq_true]
  exact ⟨fun hh => hh.1, fun hh => ⟨hh, h i hi hh⟩⟩
/-- As many paths apart as each cut has edges at least. -/
theorem menger (a b : Nat) : ∀ (m : Nat) (L : List Nat) (R : Nat → Nat) (k : Nat), L.length ≤ m → L.Nodup → R a ≠ R b → (∀ X, Side R X a b → k ≤ L.countP (splitB E X)) → Apart E L R a b k := by
  intro m
  induction m with
  | zero =>
    intro L R k hm _ hab hc
    have hL : L = [] := List.eq_nil_of_length_eq_zero (by omega)
    subst hL
    have := hc (fun v => decide (R v = R a)) ⟨fun x y h => by simp only [h], by simp, by simpa using fun h => hab h.symm⟩
    have hk : k = 0 := by simpa using this
    subst hk
    exact ⟨[], rfl, fun P hP => (by cases hP), List.Pairwise.nil⟩
  | succ m ih =>
    intro L R k hm hn hab hc
    cases k with
    | zero => exact ⟨[], rfl, fun P hP => (by cases hP), List.Pairwise.nil⟩
    | succ k =>
    have hA : Side R (fun v => decide (R v = R a)) a b := ⟨fun x y h => by simp only [h], by simp, by simpa using fun h => hab h.symm⟩
    have hB : Side R (fun v => !decide (R v = R b)) a b := ⟨fun x y h => by simp only [h], by simpa using hab, by simp⟩
    by_cases hdel : ∃ e ∈ L, ∀ X, Side R X a b → k + 1 ≤ (L.erase e).countP (splitB E X)
    · obtain ⟨e, he, h⟩ := hdel
      have hlen := List.length_erase_of_mem he
      have hpos := List.length_pos_of_mem he
      exact (ih (L.erase e) R (k + 1) (by omega) (hn.erase e) hab h).more fun i hi => List.mem_of_mem_erase hi
    · have htight : ∀ e ∈ L, ∃ X, Side R X a b ∧ L.countP (splitB E X) = k + 1 ∧ splitB E X e = true := by
        intro e he
        by_cases h : ∃ X, Side R X a b ∧ (L.erase e).countP (splitB E X) < k + 1
        · obtain ⟨X, hX, hlt⟩ := h
          have h1 := hc X hX
          have h2 := erase_cut (E := E) he X
          cases hs : splitB E X e with
          | true => rw [hs] at h2; exact ⟨X, hX, by simp at h2; omega, hs⟩
          | false => rw [hs] at h2; simp at h2; omega
        · refine absurd ⟨e, he, fun X hX => ?_⟩ hdel
          rcases Nat.lt_or_ge ((L.erase e).countP (splitB E X)) (k + 1) with h3 | h3
          · exact absurd ⟨X, hX, h3⟩ h
          · exact h3
      by_cases hbig : ∃ X, Side R X a b ∧ L.countP (splitB E X) = k + 1 ∧ (∃ i ∈ L, X (E i).1 = true ∧ X (E i).2 = true) ∧ ∃ i ∈ L, X (E i).1 = false ∧ X (E i).2 = false
      · obtain ⟨X, hX, hk, ⟨i, hi, hi1, hi2⟩, ⟨j, hj, hj1, hj2⟩⟩ := hbig
        refine apart_glue hn hX hk ?_ ?_
        · refine ih _ _ _ ?_ (hn.filter _) ?_ ?_
          · have : (L.filter fun i => X (E i).1 || X (E i).2).length < L.length := List.length_filter_lt_length_iff_exists.2 ⟨j, hj, by simp [hj1, hj2]⟩
            omega
          · simp [overIn, hX.here, hX.there]
          · intro Y hY
            have hYo : ∀ v, X v = false → Y v = false := fun v hv => by
              rw [← hY.there]; exact hY.resp v b (by simp [overIn, hv, hX.there])
            have hYR : Side R Y a b := ⟨fun x y h => by
              have hxy := hX.resp x y h
              refine hY.resp x y ?_
              unfold overIn; rw [hxy, h], hY.here, hY.there⟩
            rw [filter_same]
            · exact hc Y hYR
            · intro i _ hs
              cases h1 : X (E i).1 <;> cases h2 : X (E i).2 <;> simp
              simp [splitB, hYo _ h1, hYo _ h2] at hs
        · refine ih _ _ _ ?_ (hn.filter _) ?_ ?_
          · have : (L.filter fun i => !(X (E i).1 && X (E i).2)).length < L.length := List.length_filter_lt_length_iff_exists.2 ⟨i, hi, by simp [hi1, hi2]⟩
            omega
          · simp [overOut, hX.here, hX.there]
          · intro Y hY
            have hYo : ∀ v, X v = true → Y v = true := fun v hv => by
              rw [← hY.here]; exact hY.resp v a (by simp [overOut, hv, hX.here])
            have hYR : Side R Y a b := ⟨fun x y h => by
              have hxy := hX.resp x y h
              refine hY.resp x y ?_
              unfold overOut; rw [hxy, h], hY.here, hY.there⟩
            rw [filter_same]
            · exact hc Y hYR
            · intro i _ hs
              cases h1 : X (E i).1 <;> cases h2 : X (E i).2 <;> simp
              simp [splitB, hYo _ h1, hYo _ h2] at hs
      · have hstar : ∀ e ∈ L, (splitB E (fun v => decide (R v = R a)) e = true ∧ L.countP (splitB E (fun v => decide (R v = R a))) = k + 1) ∨ splitB E (fun v => !decide (R v = R b)) e = true := by
          intro e he
          obtain ⟨X, hX, hk, hs⟩ := htight e he
          by_cases hin : ∃ i ∈ L, X (E i).1 = true ∧ X (E i).2 = true
          · refine .inr ?_
            have hout : ∀ i ∈ L, splitB E (fun v => !decide (R v = R b)) i = true → splitB E X i = true := by
              intro i hi h
              obtain ⟨p, q, h1, h2, h3⟩ := split_ends h
              have hq : R q = R b := by simpa using h2
              have hXq : X q = false := by rw [hX.resp q b hq]; exact hX.there
              rw [h3.split X, hXq]
              cases hp : X p with
              | true => rfl
              | false =>
                refine absurd ⟨X, hX, hk, hin, i, hi, ?_⟩ hbig
                rcases h3 with ⟨e1, e2⟩ | ⟨e1, e2⟩
                · rw [e1, e2]; exact ⟨hp, hXq⟩
                · rw [e1, e2]; exact ⟨hXq, hp⟩
            exact countP_eq_of_le hout (by rw [hk]; exact hc _ hB) e he hs
          · refine .inl ?_
            have hsub : ∀ i ∈ L, splitB E (fun v => decide (R v = R a)) i = true → splitB E X i = true := by
              intro i hi h
              obtain ⟨p, q, h1, h2, h3⟩ := split_ends h
              have hp : R p = R a := by simpa using h1
              have hXp : X p = true := by rw [hX.resp p a hp]; exact hX.here
              rw [h3.split X, hXp]
              cases hq : X q with
              | false => rfl
              | true =>
                refine absurd ⟨i, hi, ?_⟩ hin
                rcases h3 with ⟨e1, e2⟩ | ⟨e1, e2⟩
                · rw [e1, e2]; exact ⟨hXp, hq⟩
                · rw [e1, e2]; exact ⟨hq, hXp⟩
            have hge := hc _ hA
            refine ⟨countP_eq_of_le hsub (by rw [hk]; exact hge) e he hs, ?_⟩
            have : L.countP (splitB E (fun v => decide (R v = R a))) ≤ L.countP (splitB E X) := List.countP_mono_left hsub
            omega
        have hpos : 0 < L.countP (splitB E (fun v => decide (R v = R a))) := by have := hc _ hA; omega
        obtain ⟨e, he, hes⟩ := List.countP_pos_iff.1 hpos
        obtain ⟨x, y, hx, hy, hxy⟩ := split_ends hes
        have hx' : R x = R a := by simpa using hx
        have hy' : ¬ R y = R a := by simpa using hy
        have hlen := List.length_erase_of_mem he
        have hlp := List.length_pos_of_mem he
        have hne : e ∉ L.erase e := fun h => (List.Nodup.mem_erase_iff hn).1 h |>.1 rfl
        by_cases hyb : R y = R b
        · refine Apart.add (ih (L.erase e) R k (by omega) (hn.erase e) hab ?_) (P := [e]) (fun i hi => List.mem_of_mem_erase hi) ?_ ?_
          · intro X hX
            have h1 := hc X hX
            rw [erase_cut (E := E) he X, hxy.split X, hX.resp x a hx', hX.resp y b hyb, hX.here, hX.there] at h1
            simp at h1; omega
          · intro F hF hE
            exact (hF a x hx'.symm).trans ((hxy.same (hE e (by simp))).trans (hF y b hyb))
          · intro i hi
            have : i = e := by simpa using hi
            subst this; exact ⟨he, hne⟩
        · by_cases hf : ∃ f ∈ L, ∃ p q, EndsAre E f p q ∧ R p = R y ∧ R q = R b
          · obtain ⟨f, hfL, p, q, hpq, hp, hq⟩ := hf
            have hfe : f ≠ e := by
              intro e0
              subst e0
              have h1 := hxy.split (fun v => decide (R v = R b))
              rw [hpq.split] at h1
              simp [hp, hq, hx', hab, hyb] at h1
            have hfL' : f ∈ L.erase e := (List.mem_erase_of_ne hfe).2 hfL
            have hlen2 := List.length_erase_of_mem hfL'
            refine Apart.add (ih ((L.erase e).erase f) R k (by omega) ((hn.erase e).erase f) hab ?_) (P := [e, f]) (fun i hi => List.mem_of_mem_erase (List.mem_of_mem_erase hi)) ?_ ?_
            · intro X hX
              have h1 := hc X hX
              rw [erase_cut (E := E) he X, erase_cut (E := E) hfL' X, hxy.split X, hpq.split X, hX.resp x a hx', hX.resp p y hp, hX.resp q b hq, hX.here, hX.there] at h1
              cases hXy : X y <;> rw [hXy] at h1 <;> simp at h1 <;> omega
            · intro F hF hE
              have h1 := hxy.same (hE e (by simp))
              have h2 := hpq.same (hE f (by simp))
              exact (hF a x hx'.symm).trans (h1.trans ((hF y p hp.symm).trans (h2.trans (hF q b hq))))
            · intro i hi
              have : i = e ∨ i = f := by simpa using hi
              rcases this with rfl | rfl
              · exact ⟨he, fun h => hne (List.mem_of_mem_erase h)⟩
              · exact ⟨hfL, fun h => ((List.Nodup.mem_erase_iff (hn.erase e)).1 h).1 rfl⟩
          · have hk1 : L.countP (splitB E (fun v => decide (R v = R a))) = k + 1 := by
              rcases hstar e he with h | h
              · exact h.2
              · rw [hxy.split] at h
                simp [hx', hab, hyb] at h
            have hS : Side R (fun v => decide (R v = R a) || decide (R v = R y)) a b := ⟨fun u v h => by simp only [h], by simp, by simp; exact ⟨fun h => hab h.symm, fun h => hyb h.symm⟩⟩
            have hsub : ∀ i ∈ L, splitB E (fun v => decide (R v = R a) || decide (R v = R y)) i = true → splitB E (fun v => decide (R v = R a)) i = true := by
              intro i hi h
              obtain ⟨p, q, h1, h2, h3⟩ := split_ends h
              have hq : ¬ R q = R a ∧ ¬ R q = R y := by simpa using h2
              have hp : R p = R a ∨ R p = R y := by simpa using h1
              rcases hstar i hi with h4 | h4
              · exact h4.1
              · rcases hp with hp | hp
                · rw [h3.split]; simp [hp, hq.1]
                · rw [h3.split] at h4
                  have : R q = R b := by
                    simp only [hp, hyb, decide_false, Bool.not_false] at h4
                    simpa using h4
                  exact absurd ⟨i, hi, p, q, h3, hp, this⟩ hf
            have hall := countP_eq_of_le hsub (by rw [hk1]; exact hc _ hS) e he hes
            rw [hxy.split] at hall
            simp [hx'] at hall
end
end Go.Proofs.Ytdacfeebidhgnaa
