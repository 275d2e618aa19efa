/- Plain facts on pieces: functions that give each node one that stands for its piece, how many nodes stand for themselves, and what a further edge does to that. -/
import Derived.Test.YtdacfeebidhgnaaEd
namespace Go.Proofs.Ytdacfeebidhgnaa
set_option maxRecDepth 100000

/-- How many of 1..n stand for themselves. -/
def cnt (R : Nat → Nat) : Nat → Nat
  | 0 => 0
  | n + 1 => cnt R n + if R (n + 1) = n + 1 then 1 else 0
def glue (R : Nat → Nat) (a b : Nat) (x : Nat) : Nat := if R x = R b then R a else R x

/-- R tells the pieces of the first k edges E, of those that T has, among n nodes. -/
structure Rep (E : Nat → Nat × Nat) (T : Nat → Bool) (k n : Nat) (R : Nat → Nat) : Prop where
  idem : ∀ x, R (R x) = R x
  joins : ∀ i, i < k → T i = true → R (E i).1 = R (E i).2
  least : ∀ F : Nat → Nat, (∀ i, i < k → T i = true → F (E i).1 = F (E i).2) → ∀ x, F (R x) = F x
  range : ∀ x, 1 ≤ x → x ≤ n → 1 ≤ R x ∧ R x ≤ n

theorem Rep.start (E : Nat → Nat × Nat) (T : Nat → Bool) (n : Nat) {R : Nat → Nat} (h : ∀ x, R x = x) : Rep E T 0 n R :=
  ⟨fun x => by rw [h, h], fun i h => by omega, fun F _ x => by rw [h], fun x h1 h2 => by rw [h]; exact ⟨h1, h2⟩⟩
theorem Rep.skip {E : Nat → Nat × Nat} {T : Nat → Bool} {k n : Nat} {R : Nat → Nat} (h : Rep E T k n R) (hk : T k = false) : Rep E T (k + 1) n R := by
  refine ⟨h.idem, ?_, ?_, h.range⟩
  · intro i hi ht
    by_cases hik : i = k
    · subst hik; rw [hk] at ht; cases ht
    · exact h.joins i (by omega) ht
  · intro F hF x
    exact h.least F (fun i hi ht => hF i (by omega) ht) x
theorem glue_idem {R : Nat → Nat} (h : ∀ x, R (R x) = R x) (a b x : Nat) : glue R a b (glue R a b x) = glue R a b x := by
  unfold glue
  by_cases h1 : R x = R b
  · simp only [h1, if_true, h]; split <;> rfl
  · simp only [h1, if_false, h]
theorem glue_self (R : Nat → Nat) (a b : Nat) : glue R a b a = R a := by unfold glue; split <;> rfl
theorem glue_other (R : Nat → Nat) (a b : Nat) : glue R a b b = R a := by simp [glue]
theorem glue_kept {R : Nat → Nat} {x y : Nat} (h : R x = R y) (a b : Nat) : glue R a b x = glue R a b y := by unfold glue; rw [h]
theorem glue_fold {R F : Nat → Nat} (hF : ∀ x, F (R x) = F x) {a b : Nat} (h : F a = F b) (x : Nat) : F (glue R a b x) = F x := by
  unfold glue
  by_cases h1 : R x = R b
  · rw [if_pos h1, hF, h, ← hF b, ← h1, hF]
  · rw [if_neg h1, hF]
theorem Rep.both {E : Nat → Nat × Nat} {T : Nat → Bool} {k n a b : Nat} {R : Nat → Nat} (h : Rep E T k n R) (ha : 1 ≤ a ∧ a ≤ n) (hE : E k = (a, b) ∨ E k = (b, a)) (hk : T k = true) : Rep E T (k + 1) n (glue R a b) := by
  refine ⟨glue_idem h.idem a b, ?_, ?_, ?_⟩
  · intro i hi ht
    by_cases hik : i = k
    · subst hik
      rcases hE with e | e <;> simp only [e, glue_self, glue_other]
    · exact glue_kept (h.joins i (by omega) ht) a b
  · intro F hF x
    have h1 := h.least F (fun i hi ht => hF i (by omega) ht)
    have h2 := hF k (by omega) hk
    refine glue_fold h1 ?_ x
    rcases hE with e | e <;> simp only [e] at h2 <;> simp [h2]
  · intro x h1 h2
    unfold glue
    have := h.range x h1 h2
    have := h.range a ha.1 ha.2
    split <;> assumption
theorem Rep.ext {E : Nat → Nat × Nat} {T T' : Nat → Bool} {k n : Nat} {R : Nat → Nat} (h : Rep E T k n R) (ht : ∀ i, i < k → T' i = T i) : Rep E T' k n R :=
  ⟨h.idem, fun i hi h1 => h.joins i hi (ht i hi ▸ h1), fun F hF x => h.least F (fun i hi h1 => hF i hi ((ht i hi).symm ▸ h1)) x, h.range⟩
theorem Rep.mono {E : Nat → Nat × Nat} {T T' : Nat → Bool} {k k' n n' : Nat} {R R' : Nat → Nat} (h : Rep E T k n R) (h' : Rep E T' k' n' R') (hk : k ≤ k') (ht : ∀ i, i < k → T i = true → T' i = true) {x y : Nat} (hxy : R x = R y) : R' x = R' y := by
  have h1 := h.least R' (fun i hi h1 => h'.joins i (by omega) (ht i hi h1))
  rw [← h1 x, ← h1 y, hxy]
theorem Rep.same {E : Nat → Nat × Nat} {T : Nat → Bool} {k n : Nat} {R R' : Nat → Nat} (h : Rep E T k n R) (h' : Rep E T k n R') (x y : Nat) : R x = R y ↔ R' x = R' y :=
  ⟨h.mono h' (Nat.le_refl _) (fun _ _ h => h), h'.mono h (Nat.le_refl _) (fun _ _ h => h)⟩

theorem cnt_congr {R R' : Nat → Nat} : ∀ n, (∀ x, 1 ≤ x → x ≤ n → (R x = x ↔ R' x = x)) → cnt R n = cnt R' n
  | 0, _ => rfl
  | n + 1, h => by
    have h1 := cnt_congr n (fun x h1 h2 => h x h1 (by omega))
    have h2 := h (n + 1) (by omega) (by omega)
    simp only [cnt, h1, h2]
theorem cnt_id {R : Nat → Nat} (h : ∀ x, R x = x) : ∀ n, cnt R n = n
  | 0 => rfl
  | n + 1 => by simp [cnt, cnt_id h n, h]
/-- One less stands for itself. -/
theorem cnt_one {R R' : Nat → Nat} {c : Nat} (h0 : 1 ≤ c) (h : ∀ x, x ≠ c → (R x = x ↔ R' x = x)) (h1 : R c = c) (h2 : R' c ≠ c) : ∀ n, c ≤ n → cnt R n = cnt R' n + 1
  | 0, hn => by omega
  | n + 1, hn => by
    by_cases hc : c = n + 1
    · subst hc
      have := cnt_congr (R := R) (R' := R') n (fun x _ h4 => h x (by omega))
      simp only [cnt, this, h1, h2, if_true, if_false]
    · have h4 := cnt_one h0 h h1 h2 n (by omega)
      have h5 := h (n + 1) (fun e => hc e.symm)
      simp only [cnt, h4, h5]; omega
theorem cnt_pos {R : Nat → Nat} {c : Nat} (h0 : 1 ≤ c) (h1 : R c = c) : ∀ n, c ≤ n → 1 ≤ cnt R n
  | 0, hn => by omega
  | n + 1, hn => by
    by_cases hc : c = n + 1
    · subst hc; simp [cnt, h1]
    · have := cnt_pos h0 h1 n (by omega); simp only [cnt]; omega
theorem cnt_le (R : Nat → Nat) : ∀ n, cnt R n ≤ n
  | 0 => Nat.le_refl _
  | n + 1 => by have := cnt_le R n; simp only [cnt]; split <;> omega

theorem cnt_glue {R : Nat → Nat} {n a b : Nat} (h : ∀ x, R (R x) = R x) (hr : ∀ x, 1 ≤ x → x ≤ n → 1 ≤ R x ∧ R x ≤ n) (hb : 1 ≤ b ∧ b ≤ n) :
    cnt R n = cnt (glue R a b) n + if R a = R b then 0 else 1 := by
  by_cases hab : R a = R b
  · rw [if_pos hab, Nat.add_zero]
    apply cnt_congr
    intro x _ _
    unfold glue
    by_cases hx : R x = R b
    · rw [if_pos hx, hab, hx]
    · rw [if_neg hx]
  · rw [if_neg hab]
    have hr' := hr b hb.1 hb.2
    refine cnt_one hr'.1 ?_ (h b) ?_ n hr'.2
    · intro x hx
      unfold glue
      by_cases h1 : R x = R b
      · rw [if_pos h1]
        constructor
        · intro e; exact absurd (e.symm.trans h1) hx
        · intro e; rw [← e, h] at h1; exact absurd h1 hab
      · rw [if_neg h1]
    · unfold glue; rw [if_pos (h b)]; exact hab

/-- The nodes that stand for themselves. -/
def heads (R : Nat → Nat) : Nat → List Nat
  | 0 => []
  | n + 1 => if R (n + 1) = n + 1 then (n + 1) :: heads R n else heads R n
theorem heads_length (R : Nat → Nat) : ∀ n, (heads R n).length = cnt R n
  | 0 => rfl
  | n + 1 => by simp only [heads, cnt]; split <;> simp [heads_length R n]
theorem heads_mem (R : Nat → Nat) (x : Nat) : ∀ n, x ∈ heads R n ↔ 1 ≤ x ∧ x ≤ n ∧ R x = x
  | 0 => by simp [heads]; omega
  | n + 1 => by
    simp only [heads]
    split
    · rename_i h
      rw [List.mem_cons, heads_mem R x n]
      constructor
      · rintro (rfl | h1)
        · exact ⟨by omega, by omega, h⟩
        · exact ⟨h1.1, by omega, h1.2.2⟩
      · rintro ⟨h1, h2, h3⟩
        by_cases e : x = n + 1
        · exact .inl e
        · exact .inr ⟨h1, by omega, h3⟩
    · rename_i h
      rw [heads_mem R x n]
      constructor
      · rintro ⟨h1, h2, h3⟩; exact ⟨h1, by omega, h3⟩
      · rintro ⟨h1, h2, h3⟩
        by_cases e : x = n + 1
        · subst e; exact absurd h3 h
        · exact ⟨h1, by omega, h3⟩
theorem heads_nodup (R : Nat → Nat) : ∀ n, (heads R n).Nodup
  | 0 => List.nodup_nil
  | n + 1 => by
    simp only [heads]
    split
    · refine List.nodup_cons.2 ⟨fun h => ?_, heads_nodup R n⟩
      have := (heads_mem R _ n).1 h
      omega
    · exact heads_nodup R n
theorem inj_length {F : Nat → Nat} : ∀ (l m : List Nat), l.Nodup → (∀ x ∈ l, F x ∈ m) → (∀ x ∈ l, ∀ y ∈ l, F x = F y → x = y) → l.length ≤ m.length
  | [], _, _, _, _ => Nat.zero_le _
  | a :: l, m, hd, hm, hi => by
    have hd' := List.nodup_cons.1 hd
    have ha := hm a (by simp)
    have h1 := inj_length (F := F) l (m.erase (F a)) hd'.2 (fun x hx => by
      refine (List.mem_erase_of_ne ?_).2 (hm x (by simp [hx]))
      intro e
      exact hd'.1 (hi x (by simp [hx]) a (by simp) e ▸ hx)) (fun x hx y hy => hi x (by simp [hx]) y (by simp [hy]))
    rw [List.length_erase_of_mem ha] at h1
    have : 0 < m.length := List.length_pos_of_mem ha
    simp only [List.length_cons]; omega
/-- What joins no less has no more pieces. -/
theorem cnt_anti {F G : Nat → Nat} {n : Nat} (hi : ∀ x, F (F x) = F x) (hr : ∀ x, 1 ≤ x → x ≤ n → 1 ≤ F x ∧ F x ≤ n) (h : ∀ x y, 1 ≤ x → x ≤ n → 1 ≤ y → y ≤ n → F x = F y → G x = G y) : cnt G n ≤ cnt F n := by
  rw [← heads_length, ← heads_length]
  refine inj_length (F := F) _ _ (heads_nodup G n) ?_ ?_
  · intro x hx
    have h1 := (heads_mem G x n).1 hx
    have h2 := hr x h1.1 h1.2.1
    exact (heads_mem F _ n).2 ⟨h2.1, h2.2, hi x⟩
  · intro x hx y hy e
    have h1 := (heads_mem G x n).1 hx
    have h2 := (heads_mem G y n).1 hy
    have h3 := h x y h1.1 h1.2.1 h2.1 h2.2.1 e
    rw [h1.2.2, h2.2.2] at h3; exact h3

/-- The pieces of the first k edges. -/
def rep (E : Nat → Nat × Nat) (T : Nat → Bool) : Nat → Nat → Nat
  | 0 => fun x => x
  | k + 1 => if T k then glue (rep E T k) (E k).1 (E k).2 else rep E T k
/-- How many of the first k things are there. -/
def card (T : Nat → Bool) : Nat → Nat
  | 0 => 0
  | k + 1 => card T k + if T k then 1 else 0
/-- All ends are nodes. -/
def EndsOk (E : Nat → Nat × Nat) (m n : Nat) : Prop := ∀ i, i < m → (1 ≤ (E i).1 ∧ (E i).1 ≤ n) ∧ (1 ≤ (E i).2 ∧ (E i).2 ≤ n)
theorem rep_ok {E : Nat → Nat × Nat} {m n : Nat} (hE : EndsOk E m n) (T : Nat → Bool) : ∀ k, k ≤ m → Rep E T k n (rep E T k)
  | 0, _ => Rep.start E T n (fun _ => rfl)
  | k + 1, h => by
    have h1 := rep_ok hE T k (by omega)
    simp only [rep]
    cases ht : T k with
    | true => exact h1.both (hE k (by omega)).1 (.inl rfl) ht
    | false => exact h1.skip ht
def pcs (E : Nat → Nat × Nat) (T : Nat → Bool) (m n : Nat) : Nat := cnt (rep E T m) n
theorem Rep.cnt_eq {E : Nat → Nat × Nat} {T : Nat → Bool} {m n : Nat} {R : Nat → Nat} (hE : EndsOk E m n) (h : Rep E T m n R) : cnt R n = pcs E T m n := by
  have h' := rep_ok hE T m (Nat.le_refl _)
  exact Nat.le_antisymm (cnt_anti h'.idem h'.range fun x y _ _ _ _ => (h'.same h x y).1) (cnt_anti h.idem h.range fun x y _ _ _ _ => (h.same h' x y).1)
theorem pcs_ext {E : Nat → Nat × Nat} {T T' : Nat → Bool} {m n : Nat} (hE : EndsOk E m n) (h : ∀ i, i < m → T i = T' i) : pcs E T m n = pcs E T' m n :=
  Rep.cnt_eq hE ((rep_ok hE T m (Nat.le_refl _)).ext fun i hi => (h i hi).symm)
theorem pcs_mono {E : Nat → Nat × Nat} {T T' : Nat → Bool} {m n : Nat} (hE : EndsOk E m n) (h : ∀ i, i < m → T i = true → T' i = true) : pcs E T' m n ≤ pcs E T m n := by
  have h1 := rep_ok hE T m (Nat.le_refl _)
  have h2 := rep_ok hE T' m (Nat.le_refl _)
  exact cnt_anti h1.idem h1.range fun x y _ _ _ _ => h1.mono h2 (Nat.le_refl _) h
theorem pcs_le (E : Nat → Nat × Nat) (T : Nat → Bool) (m n : Nat) : pcs E T m n ≤ n := cnt_le _ _
theorem pcs_pos {E : Nat → Nat × Nat} {T : Nat → Bool} {m n : Nat} (hE : EndsOk E m n) (hn : 1 ≤ n) : 1 ≤ pcs E T m n := by
  have h1 := rep_ok hE T m (Nat.le_refl _)
  have h2 := h1.range 1 (Nat.le_refl _) hn
  exact cnt_pos h2.1 (h1.idem 1) n h2.2
/-- With one edge more there is one piece less, or as many if its ends were joined. -/
theorem pcs_more {E : Nat → Nat × Nat} {T T' : Nat → Bool} {m n k : Nat} (hE : EndsOk E m n) (hk : k < m) (h : ∀ i, i < m → (T' i = true ↔ T i = true ∨ i = k)) :
    pcs E T m n = pcs E T' m n + if rep E T m (E k).1 = rep E T m (E k).2 then 0 else 1 := by
  have h1 := rep_ok hE T m (Nat.le_refl _)
  have h2 := rep_ok hE T' m (Nat.le_refl _)
  have hb := (hE k hk).2
  have ha := (hE k hk).1
  have hj := h2.joins k hk ((h k hk).2 (.inr rfl))
  have e : cnt (glue (rep E T m) (E k).1 (E k).2) n = pcs E T' m n := by
    refine Rep.cnt_eq hE ⟨glue_idem h1.idem _ _, ?_, ?_, ?_⟩
    · intro i hi ht
      rcases (h i hi).1 ht with h3 | rfl
      · exact glue_kept (h1.joins i hi h3) _ _
      · rw [glue_self, glue_other]
    · intro F hF x
      exact glue_fold (h1.least F fun i hi ht => hF i hi ((h i hi).2 (.inl ht))) (hF k hk ((h k hk).2 (.inr rfl))) x
    · intro x h3 h4
      unfold glue
      have := h1.range x h3 h4
      have := h1.range _ ha.1 ha.2
      split <;> assumption
  rw [← e]
  exact cnt_glue h1.idem h1.range hb
/-- At least the nodes less the edges. -/
theorem pcs_card {E : Nat → Nat × Nat} {m n : Nat} (hE : EndsOk E m n) (T : Nat → Bool) : ∀ k, k ≤ m → n ≤ cnt (rep E T k) n + card T k
  | 0, _ => by simp [rep, card, cnt_id]
  | k + 1, h => by
    have h1 := pcs_card hE T k (by omega)
    have h2 := rep_ok hE T k (by omega)
    simp only [rep, card]
    cases ht : T k with
    | true =>
      have h3 := cnt_glue (a := (E k).1) h2.idem h2.range (hE k (by omega)).2
      simp only [if_true]
      split at h3 <;> omega
    | false => simpa using h1
theorem pcs_none {E : Nat → Nat × Nat} {T : Nat → Bool} {m n : Nat} (h : ∀ i, i < m → T i = false) : pcs E T m n = n := by
  have : ∀ k, k ≤ m → rep E T k = fun x => x := by
    intro k
    induction k with
    | zero => intro _; rfl
    | succ k ih => intro hk; simp only [rep, h k (by omega)]; simpa using ih (by omega)
  unfold pcs; rw [this m (Nat.le_refl _)]; exact cnt_id (fun _ => rfl) n

/-- What both have and what either has: at most both ranks. -/
theorem pcs_both {E : Nat → Nat × Nat} {A B : Nat → Bool} {m n : Nat} (hE : EndsOk E m n) :
    pcs E A m n + pcs E B m n ≤ pcs E (fun i => A i && B i) m n + pcs E (fun i => A i || B i) m n := by
  have step : ∀ k, k ≤ m → pcs E A m n + pcs E (fun i => (A i && B i) || (decide (i < k) && B i)) m n ≤ pcs E (fun i => A i && B i) m n + pcs E (fun i => A i || (decide (i < k) && B i)) m n := by
    intro k
    induction k with
    | zero =>
      intro _
      have e1 : (fun i => (A i && B i) || (decide (i < 0) && B i)) = fun i => A i && B i := by funext i; simp
      have e2 : (fun i => A i || (decide (i < 0) && B i)) = A := by funext i; simp
      rw [e1, e2, Nat.add_comm]; exact Nat.le_refl _
    | succ k ih =>
      intro hk
      have h0 := ih (by omega)
      cases hb : B k with
      | false =>
        have e1 : pcs E (fun i => (A i && B i) || (decide (i < k + 1) && B i)) m n = pcs E (fun i => (A i && B i) || (decide (i < k) && B i)) m n := by
          refine pcs_ext hE fun i hi => ?_
          by_cases hik : i = k
          · subst hik; simp [hb]
          · simp [show i < k + 1 ↔ i < k by omega]
        have e2 : pcs E (fun i => A i || (decide (i < k + 1) && B i)) m n = pcs E (fun i => A i || (decide (i < k) && B i)) m n := by
          refine pcs_ext hE fun i hi => ?_
          by_cases hik : i = k
          · subst hik; simp [hb]
          · simp [show i < k + 1 ↔ i < k by omega]
        rw [e1, e2]; exact h0
      | true =>
        have h1 := pcs_more (T := fun i => (A i && B i) || (decide (i < k) && B i)) (T' := fun i => (A i && B i) || (decide (i < k + 1) && B i)) hE (show k < m by omega) (by
          intro i hi
          by_cases hik : i = k
          · subst hik; simp [hb]
          · simp [show i < k + 1 ↔ i < k by omega, hik])
        have h2 := pcs_more (T := fun i => A i || (decide (i < k) && B i)) (T' := fun i => A i || (decide (i < k + 1) && B i)) hE (show k < m by omega) (by
          intro i hi
          by_cases hik : i = k
          · subst hik; simp [hb]
          · simp [show i < k + 1 ↔ i < k by omega, hik])
        by_cases hj : rep E (fun i => (A i && B i) || (decide (i < k) && B i)) m (E k).1 = rep E (fun i => (A i && B i) || (decide (i < k) && B i)) m (E k).2
        · have hj' := (rep_ok hE (fun i => (A i && B i) || (decide (i < k) && B i)) m (Nat.le_refl _)).mono (rep_ok hE (fun i => A i || (decide (i < k) && B i)) m (Nat.le_refl _)) (Nat.le_refl _) (by
            intro i _ h; simp only [Bool.or_eq_true, Bool.and_eq_true] at h ⊢; rcases h with h | h
            · exact .inl h.1
            · exact .inr h) hj
          rw [if_pos hj] at h1
          rw [if_pos hj'] at h2
          omega
        · rw [if_neg hj] at h1
          split at h2 <;> omega
  have h := step m (Nat.le_refl _)
  have e1 : pcs E (fun i => (A i && B i) || (decide (i < m) && B i)) m n = pcs E B m n := by
    refine pcs_ext hE fun i hi => ?_
    simp only [hi, decide_true, Bool.true_and]; cases A i <;> cases B i <;> rfl
  have e2 : pcs E (fun i => A i || (decide (i < m) && B i)) m n = pcs E (fun i => A i || B i) m n := by
    refine pcs_ext hE fun i hi => ?_
    simp only [hi, decide_true, Bool.true_and]
  rw [e1, e2] at h; exact h

theorem card_less {T T' : Nat → Bool} {k : Nat} (ht : T k = true) (h : ∀ i, T' i = true ↔ T i = true ∧ i ≠ k) : ∀ m, k < m → card T m = card T' m + 1
  | 0, hk => by omega
  | m + 1, hk => by
    have same : ∀ j, j ≤ k → card T j = card T' j := by
      intro j
      induction j with
      | zero => intro _; rfl
      | succ j ih =>
        intro hj
        have : T j = T' j := by rw [Bool.eq_iff_iff, h j]; exact ⟨fun e => ⟨e, by omega⟩, fun e => e.1⟩
        simp only [card, ih (by omega), this]
    by_cases e : k = m
    · subst e
      have : T' k = false := by cases h1 : T' k with
        | false => rfl
        | true => exact absurd rfl ((h k).1 h1).2
      simp [card, same k (Nat.le_refl _), ht, this]
    · have h1 := card_less ht h m (by omega)
      have : T m = T' m := by rw [Bool.eq_iff_iff, h m]; exact ⟨fun e' => ⟨e', fun h => e h.symm⟩, fun e' => e'.1⟩
      simp only [card, h1, this]; omega

/-- Without rings each edge counts. -/
theorem free_less {E : Nat → Nat × Nat} {T T' : Nat → Bool} {m n k : Nat} (hE : EndsOk E m n) (hk : k < m) (ht : T k = true) (h : ∀ i, T' i = true ↔ T i = true ∧ i ≠ k) (hf : pcs E T m n + card T m = n) :
    pcs E T' m n + card T' m = n ∧ pcs E T' m n = pcs E T m n + 1 := by
  have h1 := pcs_more (T := T') (T' := T) hE hk (fun i _ => by
    rw [h i]
    by_cases e : i = k
    · subst e; simp [ht]
    · simp [e])
  have h2 := card_less ht h m hk
  have h3 := pcs_card hE T' m (Nat.le_refl _)
  have h4 : cnt (rep E T' m) n = pcs E T' m n := rfl
  split at h1 <;> omega
theorem free_of {E : Nat → Nat × Nat} {T : Nat → Bool} {m n : Nat} (hE : EndsOk E m n)
    (h : ∀ k, k < m → T k = true → pcs E (fun i => T i && decide (i ≠ k)) m n = pcs E T m n + 1) : pcs E T m n + card T m = n := by
  have step : ∀ k, k ≤ m → cnt (rep E T k) n + card T k = n := by
    intro k
    induction k with
    | zero => intro _; simp [rep, card, cnt_id]
    | succ k ih =>
      intro hk
      have h0 := ih (by omega)
      have h2 := rep_ok hE T k (by omega)
      simp only [rep, card]
      cases ht : T k with
      | false => simpa using h0
      | true =>
        have h3 := cnt_glue (a := (E k).1) h2.idem h2.range (hE k (by omega)).2
        simp only [if_true]
        by_cases hj : rep E T k (E k).1 = rep E T k (E k).2
        · have h4 := h k (by omega) ht
          have hj' := h2.mono (rep_ok hE (fun i => T i && decide (i ≠ k)) m (Nat.le_refl _)) (by omega) (by
            intro i hi h5; simp [h5]; omega) hj
          have h5 := pcs_more (T := fun i => T i && decide (i ≠ k)) (T' := T) hE (show k < m by omega) (by
            intro i _
            by_cases e : i = k
            · subst e; simp [ht]
            · simp [e])
          rw [if_pos hj'] at h5
          omega
        · rw [if_neg hj] at h3; omega
  exact step m (Nat.le_refl _)

/-- One piece: each node is joined to the first one. -/
theorem pcs_whole {E : Nat → Nat × Nat} {T : Nat → Bool} {m n : Nat} (hE : EndsOk E m n) (hn : 1 ≤ n) :
    pcs E T m n = 1 ↔ ∀ x, 1 ≤ x → x ≤ n → rep E T m 1 = rep E T m x := by
  have h1 := rep_ok hE T m (Nat.le_refl _)
  constructor
  · intro h x hx hx'
    by_cases e : rep E T m 1 = rep E T m x
    · exact e
    · have h3 := cnt_glue (a := 1) h1.idem h1.range ⟨hx, hx'⟩
      rw [if_neg e] at h3
      have h4 := h1.range 1 (Nat.le_refl _) hn
      have h5 : glue (rep E T m) 1 x (rep E T m 1) = rep E T m 1 := by unfold glue; rw [h1.idem]; split <;> rfl
      have h6 := cnt_pos h4.1 h5 n h4.2
      unfold pcs at h
      omega
  · intro h
    have h2 := cnt_anti (F := fun _ => 1) (G := rep E T m) (n := n) (fun _ => rfl) (fun _ _ _ => ⟨Nat.le_refl _, hn⟩) (fun x y hx hx' hy hy' _ => (h x hx hx').symm.trans (h y hy hy'))
    have h3 : ∀ j, cnt (fun _ => 1) j ≤ 1 := by
      intro j
      cases j with
      | zero => simp [cnt]
      | succ j =>
        induction j with
        | zero => simp [cnt]
        | succ j ih =>
          have : cnt (fun _ => 1) (j + 1 + 1) = cnt (fun _ => 1) (j + 1) := by rw [cnt, if_neg (by omega), Nat.add_zero]
          omega
    have h4 := pcs_pos (T := T) hE hn
    have h5 := h3 n
    unfold pcs at h4 ⊢
    omega
end Go.Proofs.Ytdacfeebidhgnaa
