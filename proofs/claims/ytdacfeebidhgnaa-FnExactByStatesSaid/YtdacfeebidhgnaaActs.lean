/- Plain facts on least states and their first edges: the sum over them is the value. -/
import Derived.Test.YtdacfeebidhgnaaRoads
namespace Go.Proofs.Ytdacfeebidhgnaa
set_option maxRecDepth 100000

/-- The edges that are there. -/
def selL : List (Nat × Nat) → (Nat → Bool) → List (Nat × Nat)
  | [], _ => []
  | e :: es, T => if T 0 = true then e :: selL es (fun i => T (i + 1)) else selL es (fun i => T (i + 1))
theorem rankL_sel : ∀ (es : List (Nat × Nat)) (T : Nat → Bool) (R : Nat → Nat), rankL es T R = rkA (selL es T) R
  | [], _, _ => rfl
  | e :: es, T, R => by
    simp only [rankL, selL]
    rw [rankL_sel es _ R, rankL_sel es _ (glue R e.1 e.2)]
    by_cases h : T 0 = true
    · rw [if_pos h, if_pos h]; rfl
    · rw [if_neg h, if_neg h]
theorem repL_sel : ∀ (es : List (Nat × Nat)) (T : Nat → Bool) (R : Nat → Nat), repL es T R = allR (selL es T) R
  | [], _, _ => rfl
  | e :: es, T, R => by
    simp only [repL, selL]
    rw [repL_sel es _ _]
    by_cases h : T 0 = true
    · rw [if_pos h, if_pos h]; rfl
    · rw [if_neg h, if_neg h]
theorem selL_sub : ∀ (es : List (Nat × Nat)) (T : Nat → Bool), (selL es T).Sublist es
  | [], _ => List.Sublist.slnil
  | e :: es, T => by
    simp only [selL]
    split
    · exact (selL_sub es _).cons_cons e
    · exact (selL_sub es _).cons e
theorem selL_congr : ∀ (es : List (Nat × Nat)) {T T' : Nat → Bool}, (∀ i, i < es.length → T i = T' i) → selL es T = selL es T'
  | [], _, _, _ => rfl
  | e :: es, T, T', h => by
    simp only [selL]
    rw [h 0 (by simp), selL_congr es (T := fun i => T (i + 1)) (T' := fun i => T' (i + 1)) fun i hi => h (i + 1) (by simp only [List.length_cons]; omega)]
theorem selL_last (e : Nat × Nat) : ∀ (l : List (Nat × Nat)) (T : Nat → Bool), selL (l ++ [e]) T = if T l.length = true then selL l T ++ [e] else selL l T
  | [], T => by simp [selL]
  | f :: l, T => by
    simp only [List.cons_append, selL, List.length_cons]
    rw [selL_last e l]
    by_cases h : T 0 = true <;> by_cases h2 : T (l.length + 1) = true <;> simp [h, h2]
theorem card_shift (T : Nat → Bool) : ∀ k, card T (k + 1) = (if T 0 = true then 1 else 0) + card (fun i => T (i + 1)) k
  | 0 => by simp [card]
  | k + 1 => by
    rw [card, card_shift T k, card]; omega
theorem selL_card : ∀ (es : List (Nat × Nat)) (T : Nat → Bool), (selL es T).length = card T es.length
  | [], _ => rfl
  | e :: es, T => by
    rw [List.length_cons, card_shift, ← selL_card es]
    simp only [selL]
    split
    · rw [List.length_cons]; omega
    · omega
theorem rkA_sublist {l l' : List (Nat × Nat)} (h : l'.Sublist l) : ∀ R, rkA l' R ≤ rkA l R := by
  induction h with
  | slnil => exact fun _ => Nat.le_refl _
  | cons a _ ih => exact fun R => Nat.le_trans (ih R) (rkA_le_cons a _ R)
  | cons_cons a _ ih =>
    intro R
    simp only [rkA]
    split
    · exact ih R
    · have := ih (glue R a.1 a.2); omega
/-- A least state. -/
def baseB (es : List (Nat × Nat)) (R : Nat → Nat) (T : Nat → Bool) : Bool := decide (rkA (selL es T) R = rkA es R) && decide ((selL es T).length = rkA es R)
theorem baseB_iff {es : List (Nat × Nat)} {R : Nat → Nat} {T : Nat → Bool} : baseB es R T = true ↔ rkA (selL es T) R = rkA es R ∧ (selL es T).length = rkA es R := by simp [baseB]
theorem baseB_congr {es : List (Nat × Nat)} {T T' : Nat → Bool} (h : ∀ i, i < es.length → T i = T' i) (R : Nat → Nat) : baseB es R T = baseB es R T' := by unfold baseB; rw [selL_congr es h]
theorem base_off {l : List (Nat × Nat)} {e : Nat × Nat} {R : Nat → Nat} {T : Nat → Bool} (hT : T l.length = false) : baseB (l ++ [e]) R T = (decide (allR l R e.1 = allR l R e.2) && baseB l R T) := by
  rw [Bool.eq_iff_iff, baseB_iff, Bool.and_eq_true, decide_eq_true_eq, baseB_iff, selL_last, rkA_last, hT]
  have h1 := rkA_sublist (selL_sub l T) R
  rw [if_neg (by simp)]
  by_cases h : allR l R e.1 = allR l R e.2
  · rw [if_pos h]; simp [h]
  · rw [if_neg h]; simp only [h, false_and, iff_false]; omega
theorem base_on {l : List (Nat × Nat)} {e : Nat × Nat} {R : Nat → Nat} {T : Nat → Bool} (hT : T l.length = true) : baseB (l ++ [e]) R T = (!decide (R e.1 = R e.2) && baseB l (glue R e.1 e.2) T) := by
  rw [Bool.eq_iff_iff, baseB_iff, Bool.and_eq_true, Bool.not_eq_true', decide_eq_false_iff_not, baseB_iff, selL_last, if_pos hT, rkA_move, rkA_move, List.append_nil, List.append_nil, List.length_append]
  have h2 := rkA_len (selL l T) R
  simp only [rkA, List.length_cons, List.length_nil]
  by_cases h : R e.1 = R e.2
  · rw [if_pos h, if_pos h]; simp only [h, not_true, false_and, iff_false]; omega
  · rw [if_neg h, if_neg h]; simp only [h, not_false_eq_true, true_and]; omega
def flipT (T : Nat → Bool) (k i : Nat) : Bool := if i = k then !T i else T i
theorem flipT_flip (T : Nat → Bool) (k : Nat) : flipT (flipT T k) k = T := by
  funext i; unfold flipT; split <;> simp
theorem flipT_zero (T : Nat → Bool) : (fun i => flipT T 0 (i + 1)) = fun i => T (i + 1) := by funext i; simp [flipT]
theorem flipT_succ (T : Nat → Bool) (k : Nat) : (fun i => flipT T (k + 1) (i + 1)) = flipT (fun i => T (i + 1)) k := by funext i; simp [flipT]
/-- One edge that is there. -/
theorem sel_pos : ∀ (l : List (Nat × Nat)) (T : Nat → Bool) {L1 L2 : List (Nat × Nat)} {f : Nat × Nat}, selL l T = L1 ++ f :: L2 → ∃ k, k < l.length ∧ T k = true ∧ selL l (flipT T k) = L1 ++ L2
  | [], T, L1, L2, f, h => by simp [selL] at h
  | e :: l, T, L1, L2, f, h => by
    by_cases h0 : T 0 = true
    · simp only [selL, if_pos h0] at h
      cases L1 with
      | nil =>
        refine ⟨0, by simp, h0, ?_⟩
        simp only [selL]
        rw [flipT_zero]
        simp only [List.nil_append, List.cons.injEq] at h
        rw [if_neg (by simp [flipT, h0]), h.2]; rfl
      | cons g L1 =>
        simp only [List.cons_append, List.cons.injEq] at h
        obtain ⟨k, h1, h2, h3⟩ := sel_pos l _ h.2
        refine ⟨k + 1, by simp only [List.length_cons]; omega, h2, ?_⟩
        simp only [selL]
        rw [flipT_succ, h3, if_pos (by simp [flipT, h0]), h.1]; rfl
    · simp only [selL, if_neg h0] at h
      obtain ⟨k, h1, h2, h3⟩ := sel_pos l _ h
      refine ⟨k + 1, by simp only [List.length_cons]; omega, h2, ?_⟩
      simp only [selL]
      rw [flipT_succ, h3, if_neg (by simp [flipT, h0])]
/-- One edge by its place. -/
theorem sel_at : ∀ (l : List (Nat × Nat)) (T : Nat → Bool) {k : Nat} {f : Nat × Nat}, l[k]? = some f → T k = true → ∃ L1 L2, selL l T = L1 ++ f :: L2 ∧ selL l (flipT T k) = L1 ++ L2
  | [], T, k, f, h, _ => by simp at h
  | e :: l, T, 0, f, h, hT => by
    simp only [List.getElem?_cons_zero, Option.some.injEq] at h
    subst h
    refine ⟨[], selL l (fun i => T (i + 1)), ?_, ?_⟩
    · simp only [selL, if_pos hT]; rfl
    · simp only [selL]; rw [flipT_zero, if_neg (by simp [flipT, hT])]; rfl
  | e :: l, T, k + 1, f, h, hT => by
    rw [List.getElem?_cons_succ] at h
    obtain ⟨L1, L2, h1, h2⟩ := sel_at l (fun i => T (i + 1)) h hT
    simp only [selL]
    rw [flipT_succ, h2, h1]
    by_cases h0 : T 0 = true
    · exact ⟨e :: L1, L2, by rw [if_pos h0]; rfl, by rw [if_pos (by simp [flipT, h0])]; rfl⟩
    · exact ⟨L1, L2, by rw [if_neg h0], by rw [if_neg (by simp [flipT, h0])]⟩
/-- An edge whose ends are joined can be exchanged for one of those that join them. -/
theorem exch {e : Nat × Nat} : ∀ (L : List (Nat × Nat)) (R : Nat → Nat), R e.1 ≠ R e.2 → allR L R e.1 = allR L R e.2 → ∃ L1 f L2, L = L1 ++ f :: L2 ∧ allR (L1 ++ L2) (glue R e.1 e.2) f.1 = allR (L1 ++ L2) (glue R e.1 e.2) f.2
  | [], R, h, h2 => absurd h2 h
  | f :: L, R, h, h2 => by
    by_cases hj : glue R f.1 f.2 e.1 = glue R f.1 f.2 e.2
    · refine ⟨[], f, L, rfl, allR_sub L _ _ _ ?_⟩
      rw [glue_eq] at hj ⊢
      omega
    · obtain ⟨L1, g, L2, h3, h4⟩ := exch L (glue R f.1 f.2) hj h2
      refine ⟨f :: L1, g, L2, by rw [h3]; rfl, ?_⟩
      exact (allR_ker (L1 ++ L2) (Ker.comm R f.1 f.2 e.1 e.2) _ _).1 h4
theorem span_all {S l : List (Nat × Nat)} {R : Nat → Nat} (hs : S.Sublist l) (h : rkA S R = rkA l R) : ∀ f ∈ l, allR S R f.1 = allR S R f.2 := fun f hf => by
  have h1 := rkA_last f S R
  have h2 := rkA_last f l R
  rw [if_pos (allR_has l R f hf)] at h2
  have h3 := rkA_sublist (hs.append (List.Sublist.refl [f])) R
  by_cases hj : allR S R f.1 = allR S R f.2
  · exact hj
  · rw [if_neg hj] at h1; omega
theorem base_ring {l : List (Nat × Nat)} {e : Nat × Nat} {R : Nat → Nat} {T : Nat → Bool} (h1 : R e.1 ≠ R e.2) (h2 : allR l R e.1 = allR l R e.2) (hb : baseB l R T = true) : ∃ k, k < l.length ∧ baseB l (glue R e.1 e.2) (flipT T k) = true := by
  obtain ⟨b1, b2⟩ := baseB_iff.1 hb
  have hj : allR (selL l T) R e.1 = allR (selL l T) R e.2 := allR_least l (allR_sub _ R) (span_all (selL_sub l T) b1) _ _ h2
  obtain ⟨L1, f, L2, h3, h4⟩ := exch _ R h1 hj
  obtain ⟨k, hk, hT, h5⟩ := sel_pos l T h3
  refine ⟨k, hk, baseB_iff.2 ?_⟩
  have r1 := rkA_first e l R
  rw [if_pos h2, rkA_join h1] at r1
  have r2 := rkA_first e (selL l T) R
  rw [if_pos hj, rkA_join h1] at r2
  have r3 : rkA (selL l T) (glue R e.1 e.2) = rkA (L1 ++ L2) (glue R e.1 e.2) := by
    rw [h3, rkA_move, rkA_first, if_pos h4]; rfl
  have r4 : (selL l T).length = (L1 ++ L2).length + 1 := by rw [h3]; simp; omega
  rw [h5]
  omega
theorem base_cut {l : List (Nat × Nat)} {e : Nat × Nat} {R : Nat → Nat} {T : Nat → Bool} (h1 : R e.1 ≠ R e.2) (h2 : allR l R e.1 = allR l R e.2) (hb : baseB l (glue R e.1 e.2) T = true) : ∃ k, k < l.length ∧ baseB l R (flipT T k) = true := by
  obtain ⟨b1, b2⟩ := baseB_iff.1 hb
  have r1 := rkA_first e l R
  rw [if_pos h2, rkA_join h1] at r1
  have r2 := rkA_first e (selL l T) R
  rw [rkA_join h1] at r2
  have r3 := rkA_len (selL l T) R
  have r4 : ¬ allR (selL l T) R e.1 = allR (selL l T) R e.2 := fun h => by rw [if_pos h] at r2; omega
  rw [if_neg r4] at r2
  have h3 : ¬ ∀ f ∈ l, allR (selL l T) R f.1 = allR (selL l T) R f.2 := fun h => r4 (allR_least l (allR_sub _ R) h _ _ h2)
  obtain ⟨f, hf, hne⟩ : ∃ f, f ∈ l ∧ ¬ allR (selL l T) R f.1 = allR (selL l T) R f.2 := by
    refine Classical.byContradiction fun h => h3 fun f hf => Classical.byContradiction fun hn => h ⟨f, hf, hn⟩
  obtain ⟨k, hk, hkf⟩ := List.getElem_of_mem hf
  have hkf' : l[k]? = some f := by rw [List.getElem?_eq_getElem hk, hkf]
  have hT : T k = false := by
    cases hT : T k with
    | false => rfl
    | true =>
      obtain ⟨L1, L2, h4, -⟩ := sel_at l T hkf' hT
      exact absurd (allR_has (selL l T) R f (by rw [h4]; simp)) hne
  obtain ⟨L1, L2, h4, h5⟩ := sel_at l (flipT T k) hkf' (by simp [flipT, hT])
  rw [flipT_flip] at h5
  refine ⟨k, hk, baseB_iff.2 ?_⟩
  have r5 := rkA_first f (selL l T) R
  rw [if_neg hne] at r5
  have r6 : rkA (selL l (flipT T k)) R = rkA (f :: selL l T) R := by rw [h4, rkA_move, h5]
  have r7 : (selL l (flipT T k)).length = (selL l T).length + 1 := by rw [h4, h5]; simp; omega
  omega
/-- The edge at i cannot be exchanged for one before it. -/
def firstB (es : List (Nat × Nat)) (R : Nat → Nat) (T : Nat → Bool) (i : Nat) : Bool := (List.range i).all fun k => !baseB es R (flipT (flipT T i) k)
theorem firstB_iff {es : List (Nat × Nat)} {R : Nat → Nat} {T : Nat → Bool} {i : Nat} : firstB es R T i = true ↔ ∀ k, k < i → baseB es R (flipT (flipT T i) k) = false := by
  unfold firstB
  rw [List.all_eq_true]
  constructor
  · intro h k hk; have := h k (List.mem_range.2 hk); simpa using this
  · intro h k hk; rw [h k (List.mem_range.1 hk)]; rfl
theorem flipT_far (T : Nat → Bool) {k i : Nat} (h : i ≠ k) : flipT T k i = T i := by unfold flipT; rw [if_neg h]
theorem flipT_at (T : Nat → Bool) (k : Nat) : flipT T k k = !T k := by unfold flipT; rw [if_pos rfl]
theorem flipT_congr {T T' : Nat → Bool} {n : Nat} (h : ∀ i, i < n → T i = T' i) (k : Nat) : ∀ i, i < n → flipT T k i = flipT T' k i := fun i hi => by unfold flipT; rw [h i hi]
theorem firstB_congr {es : List (Nat × Nat)} {T T' : Nat → Bool} (h : ∀ i, i < es.length → T i = T' i) (R : Nat → Nat) (i : Nat) : firstB es R T i = firstB es R T' i := by
  unfold firstB
  congr 1
  funext k
  rw [baseB_congr (flipT_congr (flipT_congr h i) k)]
theorem first_off {l : List (Nat × Nat)} {e : Nat × Nat} {R : Nat → Nat} {T : Nat → Bool} (hT : T l.length = false) (h : allR l R e.1 = allR l R e.2) {i : Nat} (hi : i < l.length) : firstB (l ++ [e]) R T i = firstB l R T i := by
  rw [Bool.eq_iff_iff, firstB_iff, firstB_iff]
  refine forall_congr' fun k => forall_congr' fun hk => ?_
  rw [base_off (by rw [flipT_far _ (by omega), flipT_far _ (by omega), hT])]
  simp [h]
theorem first_on {l : List (Nat × Nat)} {e : Nat × Nat} {R : Nat → Nat} {T : Nat → Bool} (hT : T l.length = true) (h : R e.1 ≠ R e.2) {i : Nat} (hi : i < l.length) : firstB (l ++ [e]) R T i = firstB l (glue R e.1 e.2) T i := by
  rw [Bool.eq_iff_iff, firstB_iff, firstB_iff]
  refine forall_congr' fun k => forall_congr' fun hk => ?_
  rw [base_on (by rw [flipT_far _ (by omega), flipT_far _ (by omega), hT])]
  simp [h]
/-- What a least state adds: how many edges that are there are first, and how many that are not. -/
def inC (es : List (Nat × Nat)) (R : Nat → Nat) (T : Nat → Bool) : Nat := card (fun i => T i && firstB es R T i) es.length
def outC (es : List (Nat × Nat)) (R : Nat → Nat) (T : Nat → Bool) : Nat := card (fun i => !T i && firstB es R T i) es.length
theorem card_same {p q : Nat → Bool} : ∀ k, (∀ i, i < k → p i = q i) → card p k = card q k
  | 0, _ => rfl
  | k + 1, h => by rw [card, card, card_same k fun i hi => h i (by omega), h k (by omega)]
theorem inC_congr {es : List (Nat × Nat)} {T T' : Nat → Bool} (h : ∀ i, i < es.length → T i = T' i) (R : Nat → Nat) : inC es R T = inC es R T' := card_same _ fun i hi => by rw [h i hi, firstB_congr h]
theorem outC_congr {es : List (Nat × Nat)} {T T' : Nat → Bool} (h : ∀ i, i < es.length → T i = T' i) (R : Nat → Nat) : outC es R T = outC es R T' := card_same _ fun i hi => by rw [h i hi, firstB_congr h]
def actT (x y : Int) (es : List (Nat × Nat)) (R : Nat → Nat) (T : Nat → Bool) : Int := if baseB es R T = true then x ^ inC es R T * y ^ outC es R T else 0
theorem actT_congr (x y : Int) {es : List (Nat × Nat)} {T T' : Nat → Bool} (h : ∀ i, i < es.length → T i = T' i) (R : Nat → Nat) : actT x y es R T = actT x y es R T' := by
  unfold actT; rw [baseB_congr h, inC_congr h, outC_congr h]
theorem act_off (x y : Int) {l : List (Nat × Nat)} {e : Nat × Nat} {R : Nat → Nat} {T : Nat → Bool} (hT : T l.length = false) :
    actT x y (l ++ [e]) R T = if R e.1 = R e.2 then y * actT x y l R T else if allR l R e.1 = allR l R e.2 then actT x y l R T else 0 := by
  unfold actT
  rw [base_off hT]
  by_cases hj : allR l R e.1 = allR l R e.2
  · simp only [hj, decide_true, Bool.true_and, if_true]
    by_cases hb : baseB l R T = true
    · rw [if_pos hb]
      have h1 : inC (l ++ [e]) R T = inC l R T := by
        unfold inC
        rw [List.length_append, List.length_singleton, card, hT]
        simp only [Bool.false_and, Bool.false_eq_true, if_false, Nat.add_zero]
        exact card_same _ fun i hi => by rw [first_off hT hj hi]
      have h2 : outC (l ++ [e]) R T = outC l R T + if firstB (l ++ [e]) R T l.length = true then 1 else 0 := by
        unfold outC
        rw [List.length_append, List.length_singleton, card, hT]
        simp only [Bool.not_false, Bool.true_and]
        rw [card_same (q := fun i => !T i && firstB l R T i) _ fun i hi => by rw [first_off hT hj hi]]
      rw [h1, h2]
      by_cases hl : R e.1 = R e.2
      · have h3 : firstB (l ++ [e]) R T l.length = true := firstB_iff.2 fun k hk => by
          rw [base_on (by rw [flipT_far _ (by omega), flipT_at, hT]; rfl)]; simp [hl]
        rw [if_pos hl, if_pos h3, if_pos hb, Int.pow_succ, ← Int.mul_assoc, Int.mul_comm _ y]
      · have h3 : ¬ firstB (l ++ [e]) R T l.length = true := fun h => by
          obtain ⟨k, hk, h4⟩ := base_ring hl hj hb
          have := firstB_iff.1 h k hk
          rw [base_on (by rw [flipT_far _ (by omega), flipT_at, hT]; rfl)] at this
          rw [baseB_congr (T' := flipT T k) (flipT_congr (fun i hi => flipT_far T (by omega)) k) , h4] at this
          simp [hl] at this
        rw [if_neg hl, if_neg h3, if_pos hb]; rfl
    · rw [if_neg hb, if_neg hb]; simp
  · have hl : ¬ R e.1 = R e.2 := fun h => hj (allR_sub l R _ _ h)
    rw [if_neg hl, if_neg hj]; simp [hj]
theorem act_on (x y : Int) {l : List (Nat × Nat)} {e : Nat × Nat} {R : Nat → Nat} {T : Nat → Bool} (hT : T l.length = true) :
    actT x y (l ++ [e]) R T = if R e.1 = R e.2 then 0 else if allR l R e.1 = allR l R e.2 then actT x y l (glue R e.1 e.2) T else x * actT x y l (glue R e.1 e.2) T := by
  unfold actT
  rw [base_on hT]
  by_cases hl : R e.1 = R e.2
  · rw [if_pos hl]; simp [hl]
  · simp only [hl, decide_false, Bool.not_false, Bool.true_and, if_false]
    by_cases hb : baseB l (glue R e.1 e.2) T = true
    · rw [if_pos hb]
      have h1 : outC (l ++ [e]) R T = outC l (glue R e.1 e.2) T := by
        unfold outC
        rw [List.length_append, List.length_singleton, card, hT]
        simp only [Bool.not_true, Bool.false_and, Bool.false_eq_true, if_false, Nat.add_zero]
        exact card_same _ fun i hi => by rw [first_on hT hl hi]
      have h2 : inC (l ++ [e]) R T = inC l (glue R e.1 e.2) T + if firstB (l ++ [e]) R T l.length = true then 1 else 0 := by
        unfold inC
        rw [List.length_append, List.length_singleton, card, hT]
        simp only [Bool.true_and]
        rw [card_same (q := fun i => T i && firstB l (glue R e.1 e.2) T i) _ fun i hi => by rw [first_on hT hl hi]]
      rw [h1, h2]
      by_cases hj : allR l R e.1 = allR l R e.2
      · have h3 : ¬ firstB (l ++ [e]) R T l.length = true := fun h => by
          obtain ⟨k, hk, h4⟩ := base_cut hl hj hb
          have := firstB_iff.1 h k hk
          rw [base_off (by rw [flipT_far _ (by omega), flipT_at, hT]; rfl)] at this
          rw [baseB_congr (T' := flipT T k) (flipT_congr (fun i hi => flipT_far T (by omega)) k) , h4] at this
          simp [hj] at this
        rw [if_pos hj, if_neg h3, if_pos hb]; rfl
      · have h3 : firstB (l ++ [e]) R T l.length = true := firstB_iff.2 fun k hk => by
          rw [base_off (by rw [flipT_far _ (by omega), flipT_at, hT]; rfl)]; simp [hj]
        rw [if_neg hj, if_pos h3, if_pos hb, Int.pow_succ, Int.mul_comm _ x, Int.mul_assoc]
    · rw [if_neg hb, if_neg hb]; simp
theorem sumS_more (f : Nat → Int) (a : Nat) : ∀ b, sumS f (a + b) = sumS f a + sumS (fun k => f (a + k)) b
  | 0 => by simp [sumS]
  | b + 1 => by
    rw [← Nat.add_assoc]
    simp only [sumS, sumS_more f a b]; omega
theorem sumS_times (c : Int) (f : Nat → Int) : ∀ n, sumS (fun k => c * f k) n = c * sumS f n
  | 0 => by simp [sumS]
  | n + 1 => by simp only [sumS, sumS_times c f n, Int.mul_add]
theorem sumS_nil {f : Nat → Int} (h : ∀ k, f k = 0) : ∀ n, sumS f n = 0
  | 0 => rfl
  | n + 1 => by simp only [sumS, sumS_nil h n, h n]; rfl
/-- The sum over all least states. -/
def actR (x y : Int) (es : List (Nat × Nat)) (R : Nat → Nat) : Int := sumS (fun s => actT x y es R fun i => s.testBit i) (2 ^ es.length)
theorem bit_top_off {m s : Nat} (h : s < 2 ^ m) : s.testBit m = false := Nat.testBit_lt_two_pow h
theorem bit_top_on {m s : Nat} (h : s < 2 ^ m) : (2 ^ m + s).testBit m = true := by rw [Nat.testBit_two_pow_add_eq, bit_top_off h]; rfl
theorem bit_low {m s i : Nat} (hi : i < m) : (2 ^ m + s).testBit i = s.testBit i := Nat.testBit_two_pow_add_gt hi s
theorem act_last (x y : Int) (l : List (Nat × Nat)) (e : Nat × Nat) (R : Nat → Nat) :
    actR x y (l ++ [e]) R = if R e.1 = R e.2 then y * actR x y l R else if allR l R e.1 = allR l R e.2 then actR x y l R + actR x y l (glue R e.1 e.2) else x * actR x y l (glue R e.1 e.2) := by
  unfold actR
  rw [List.length_append, List.length_singleton, Nat.pow_succ, Nat.mul_two, sumS_more]
  have h1 := sumS_congr (f := fun s => actT x y (l ++ [e]) R fun i => s.testBit i) (2 ^ l.length) fun s hs => act_off x y (l := l) (e := e) (R := R) (T := fun i => s.testBit i) (bit_top_off hs)
  have h2 := sumS_congr (f := fun s => actT x y (l ++ [e]) R fun i => (2 ^ l.length + s).testBit i) (2 ^ l.length) fun s hs => (act_on x y (l := l) (e := e) (R := R) (T := fun i => (2 ^ l.length + s).testBit i) (bit_top_on hs)).trans (by
    rw [actT_congr x y (T' := fun i => s.testBit i) fun i hi => bit_low hi])
  rw [h1, h2]
  by_cases hl : R e.1 = R e.2
  · simp only [if_pos hl]
    rw [sumS_times, sumS_nil fun _ => rfl]; omega
  · simp only [if_neg hl]
    by_cases hj : allR l R e.1 = allR l R e.2
    · simp only [if_pos hj]
    · simp only [if_neg hj]
      rw [sumS_times, sumS_nil fun _ => rfl]; omega
theorem act_val (x y : Int) : ∀ (m : Nat) (es : List (Nat × Nat)) (R : Nat → Nat), es.length = m → actR x y es R = valR x y es R
  | 0, es, R, h => by
    obtain rfl := List.eq_nil_of_length_eq_zero h
    rw [valR_none]
    have hb : baseB [] R (fun i => Nat.testBit 0 i) = true := baseB_iff.2 ⟨rfl, rfl⟩
    show 0 + actT x y [] R (fun i => Nat.testBit 0 i) = 1
    unfold actT
    rw [if_pos hb]
    simp [inC, outC, card]
  | m + 1, es, R, h => by
    obtain ⟨l, e, rfl⟩ : ∃ l e, es = l ++ [e] := ⟨es.dropLast, es.getLast (by intro h'; rw [h'] at h; cases h), (List.dropLast_concat_getLast _).symm⟩
    have hl : l.length = m := by simp at h; exact h
    rw [act_last, valR_move, List.append_nil, act_val x y m l R hl, act_val x y m l _ hl]
    by_cases h1 : R e.1 = R e.2
    · rw [if_pos h1, valR_loop x y h1]
    · rw [if_neg h1]
      by_cases h2 : allR l R e.1 = allR l R e.2
      · rw [if_pos h2, valR_both x y h1 h2]
      · rw [if_neg h2, valR_bridge x y h2]
end Go.Proofs.Ytdacfeebidhgnaa
