/- Plain facts on the value of two numbers: ranks of lists of edges from a start on, deletion and making one. -/
import Derived.Test.YtdacfeebidhgnaaTutte
namespace Go.Proofs.Ytdacfeebidhgnaa
set_option maxRecDepth 100000

/-- What all edges join, from R on. -/
def allR : List (Nat × Nat) → (Nat → Nat) → Nat → Nat
  | [], R => R
  | e :: es, R => allR es (glue R e.1 e.2)
/-- The rank of all edges, from R on. -/
def rkA : List (Nat × Nat) → (Nat → Nat) → Nat
  | [], _ => 0
  | e :: es, R => if R e.1 = R e.2 then rkA es R else rkA es (glue R e.1 e.2) + 1
theorem rkA_loop {e : Nat × Nat} {R : Nat → Nat} (h : R e.1 = R e.2) (es : List (Nat × Nat)) : rkA (e :: es) R = rkA es R := by simp only [rkA, if_pos h]
theorem rkA_join {e : Nat × Nat} {R : Nat → Nat} (h : R e.1 ≠ R e.2) (es : List (Nat × Nat)) : rkA (e :: es) R = rkA es (glue R e.1 e.2) + 1 := by simp only [rkA, if_neg h]
theorem allR_ker : ∀ (es : List (Nat × Nat)) {R R' : Nat → Nat}, Ker R R' → Ker (allR es R) (allR es R')
  | [], _, _, h => h
  | e :: es, _, _, h => allR_ker es (h.glue e.1 e.2)
theorem rkA_ker : ∀ (es : List (Nat × Nat)) {R R' : Nat → Nat}, Ker R R' → rkA es R = rkA es R'
  | [], _, _, _ => rfl
  | e :: es, R, R', h => by
    simp only [rkA]
    rw [rkA_ker es h, rkA_ker es (h.glue e.1 e.2)]
    simp only [h e.1 e.2]
theorem allR_append (l1 l2 : List (Nat × Nat)) (R : Nat → Nat) : allR (l1 ++ l2) R = allR l2 (allR l1 R) := by
  induction l1 generalizing R with
  | nil => rfl
  | cons e l1 ih => exact ih _
theorem rkA_append : ∀ (l1 l2 : List (Nat × Nat)) (R : Nat → Nat), rkA (l1 ++ l2) R = rkA l1 R + rkA l2 (allR l1 R)
  | [], l2, R => by simp [rkA, allR]
  | e :: l1, l2, R => by
    rw [List.cons_append]
    by_cases h : R e.1 = R e.2
    · rw [rkA_loop h, rkA_loop h, rkA_append l1 l2 R]
      have : rkA l2 (allR (e :: l1) R) = rkA l2 (allR l1 R) := rkA_ker l2 (allR_ker l1 (Ker.joined h))
      rw [this]
    · rw [rkA_join h, rkA_join h, rkA_append l1 l2]
      show _ = _ + rkA l2 (allR l1 (glue R e.1 e.2))
      omega
theorem rkA_swap (e f : Nat × Nat) (es : List (Nat × Nat)) (R : Nat → Nat) : rkA (e :: f :: es) R = rkA (f :: e :: es) R := by
  by_cases h1 : R e.1 = R e.2 <;> by_cases h2 : R f.1 = R f.2
  · rw [rkA_loop h1, rkA_loop h2, rkA_loop h2, rkA_loop h1]
  · have h3 : glue R f.1 f.2 e.1 = glue R f.1 f.2 e.2 := glue_kept h1 _ _
    rw [rkA_loop h1, rkA_join h2, rkA_join h2, rkA_loop h3]
  · have h3 : glue R e.1 e.2 f.1 = glue R e.1 e.2 f.2 := glue_kept h2 _ _
    rw [rkA_loop h2, rkA_join h1, rkA_join h1, rkA_loop h3]
  · rw [rkA_join h1, rkA_join h2]
    by_cases h3 : glue R e.1 e.2 f.1 = glue R e.1 e.2 f.2
    · have h4 : glue R f.1 f.2 e.1 = glue R f.1 f.2 e.2 := by
        rw [glue_eq] at h3 ⊢; omega
      have h5 : Ker (glue R e.1 e.2) (glue R f.1 f.2) := by
        intro x y
        rw [glue_eq, glue_eq]
        rw [glue_eq] at h3; omega
      rw [rkA_loop h3, rkA_loop h4, rkA_ker es h5]
    · have h4 : glue R f.1 f.2 e.1 ≠ glue R f.1 f.2 e.2 := by
        intro h4; apply h3
        rw [glue_eq] at h4 ⊢; omega
      rw [rkA_join h3, rkA_join h4, rkA_ker es (Ker.comm R e.1 e.2 f.1 f.2)]
theorem allR_move (e : Nat × Nat) : ∀ (l1 l2 : List (Nat × Nat)) (R : Nat → Nat), Ker (allR (l1 ++ e :: l2) R) (allR (e :: (l1 ++ l2)) R)
  | [], _, _ => Ker.refl _
  | f :: l1, l2, R => (allR_move e l1 l2 (glue R f.1 f.2)).trans (allR_ker (l1 ++ l2) (Ker.comm R f.1 f.2 e.1 e.2))
theorem rkA_cons_congr {l l' : List (Nat × Nat)} (h : ∀ R, rkA l R = rkA l' R) (e : Nat × Nat) (R : Nat → Nat) : rkA (e :: l) R = rkA (e :: l') R := by
  simp only [rkA]; rw [h, h]
theorem rkA_move (e : Nat × Nat) (l2 : List (Nat × Nat)) : ∀ (l1 : List (Nat × Nat)) (R : Nat → Nat), rkA (l1 ++ e :: l2) R = rkA (e :: (l1 ++ l2)) R
  | [], _ => rfl
  | f :: l1, R => by
    rw [List.cons_append, rkA_cons_congr (rkA_move e l2 l1), rkA_swap, List.cons_append]
theorem rkA_last (e : Nat × Nat) (l : List (Nat × Nat)) (R : Nat → Nat) : rkA (l ++ [e]) R = rkA l R + if allR l R e.1 = allR l R e.2 then 0 else 1 := by
  rw [rkA_append]
  simp only [rkA, Nat.zero_add]
theorem rkA_first (e : Nat × Nat) (l : List (Nat × Nat)) (R : Nat → Nat) : rkA (e :: l) R = rkA l R + if allR l R e.1 = allR l R e.2 then 0 else 1 := by
  rw [← rkA_last, rkA_move, List.append_nil]
theorem rkA_le_cons (e : Nat × Nat) (l : List (Nat × Nat)) (R : Nat → Nat) : rkA l R ≤ rkA (e :: l) R := by rw [rkA_first]; omega
theorem rkA_len : ∀ (l : List (Nat × Nat)) (R : Nat → Nat), rkA l R ≤ l.length
  | [], _ => Nat.le_refl _
  | e :: l, R => by
    have h1 := rkA_len l R
    have h2 := rkA_len l (glue R e.1 e.2)
    simp only [rkA, List.length_cons]
    split <;> omega
theorem allR_sub : ∀ (es : List (Nat × Nat)) (R : Nat → Nat), Sub R (allR es R)
  | [], _ => fun _ _ h => h
  | e :: es, R => fun x y h => allR_sub es (glue R e.1 e.2) x y (glue_kept h _ _)
theorem allR_has : ∀ (es : List (Nat × Nat)) (R : Nat → Nat), ∀ f ∈ es, allR es R f.1 = allR es R f.2
  | [], _, _, h => by simp at h
  | e :: es, R, f, h => by
    rcases List.mem_cons.1 h with rfl | h
    · exact allR_sub es _ _ _ (by rw [glue_self, glue_other])
    · exact allR_has es _ f h
/-- What all edges join is joined in all that joins as R does and the ends of all edges. -/
theorem allR_least : ∀ (es : List (Nat × Nat)) {R F : Nat → Nat}, Sub R F → (∀ f ∈ es, F f.1 = F f.2) → Sub (allR es R) F
  | [], _, _, h, _ => h
  | e :: es, _, _, h, hf => allR_least es (h.glue (hf e (by simp))) fun f h => hf f (by simp [h])
theorem allR_mem {l l' : List (Nat × Nat)} (h : ∀ e ∈ l, e ∈ l') (R : Nat → Nat) : Sub (allR l R) (allR l' R) :=
  allR_least l (allR_sub l' R) fun f hf => allR_has l' R f (h f hf)

theorem tut_leafR {leaf leaf' : Nat → Nat → Int} {c : Int} : ∀ (es : List (Nat × Nat)) (R : Nat → Nat) (t r t' r' : Nat), (∀ a b, b ≤ a → b ≤ rkA es R → a ≤ es.length → leaf (t + a) (r + b) = c * leaf' (t' + a) (r' + b)) → tut leaf es R t r = c * tut leaf' es R t' r'
  | [], _, t, r, t', r', h => h 0 0 (Nat.le_refl _) (Nat.zero_le _) (Nat.zero_le _)
  | e :: es, R, t, r, t', r', h => by
    simp only [tut]
    have hl := rkA_le_cons e es R
    have hc : (e :: es).length = es.length + 1 := rfl
    rw [tut_leafR es R t r t' r' fun a b h1 h2 h3 => h a b h1 (by omega) (by omega)]
    rw [Int.mul_add]
    congr 1
    by_cases hj : R e.1 = R e.2
    · rw [if_pos hj, if_pos hj]
      rw [rkA_loop hj] at h
      exact tut_leafR es R (t + 1) r (t' + 1) r' fun a b h1 h2 h3 => by
        have := h (a + 1) b (by omega) h2 (by omega); rwa [← Nat.add_assoc, ← Nat.add_assoc, Nat.add_right_comm, Nat.add_right_comm t'] at this
    · rw [if_neg hj, if_neg hj]
      rw [rkA_join hj] at h
      exact tut_leafR es (glue R e.1 e.2) (t + 1) (r + 1) (t' + 1) (r' + 1) fun a b h1 h2 h3 => by
        have := h (a + 1) (b + 1) (by omega) (by omega) (by omega)
        rw [show t + 1 + a = t + (a + 1) by omega, show r + 1 + b = r + (b + 1) by omega, show t' + 1 + a = t' + (a + 1) by omega, show r' + 1 + b = r' + (b + 1) by omega]; exact this
/-- An edge that the others do not join changes nothing for them. -/
theorem tut_bridge (leaf : Nat → Nat → Int) {e : Nat × Nat} : ∀ (es : List (Nat × Nat)) (R : Nat → Nat) (t r : Nat), (∃ F : Nat → Nat, Sub R F ∧ (∀ f ∈ es, F f.1 = F f.2) ∧ F e.1 ≠ F e.2) →
    tut leaf es R t r = tut leaf es (glue R e.1 e.2) t r
  | [], R, t, r, _ => rfl
  | f :: es, R, t, r, ⟨F, hs, hj, hne⟩ => by
    have hf := hj f (by simp)
    have hj' : ∀ f ∈ es, F f.1 = F f.2 := fun f h => hj f (by simp [h])
    have h1 := tut_bridge leaf es R t r ⟨F, hs, hj', hne⟩
    by_cases hr : R f.1 = R f.2
    · have h2 := tut_bridge leaf es R (t + 1) r ⟨F, hs, hj', hne⟩
      rw [tut_loop _ hr, tut_loop _ (glue_kept hr _ _)]
      omega
    · have hg : glue R e.1 e.2 f.1 ≠ glue R e.1 e.2 f.2 := fun h => by
        rcases (glue_eq R e.1 e.2 f.1 f.2).1 h with h | ⟨h3, h4⟩
        · exact hr h
        · apply hne
          rcases h3 with h3 | h3 <;> rcases h4 with h4 | h4
          · exact absurd (h3.trans h4.symm) hr
          · rw [← hs _ _ h3, ← hs _ _ h4, hf]
          · rw [← hs _ _ h3, ← hs _ _ h4, hf]
          · exact absurd (h3.trans h4.symm) hr
      have h2 := tut_bridge leaf es (glue R f.1 f.2) (t + 1) (r + 1) ⟨F, hs.glue hf, hj', hne⟩
      rw [tut_join _ hr, tut_join _ hg, tut_ker _ es _ _ _ _ (Ker.comm R e.1 e.2 f.1 f.2)]
      omega

/-- The leaf of the value. -/
def valLeaf (x y : Int) (ρ t r : Nat) : Int := (x - 1) ^ (ρ - r) * (y - 1) ^ (t - r)
/-- The value, from R on. -/
def valR (x y : Int) (es : List (Nat × Nat)) (R : Nat → Nat) : Int := tut (valLeaf x y (rkA es R)) es R 0 0
theorem valR_ker (x y : Int) (es : List (Nat × Nat)) {R R' : Nat → Nat} (h : Ker R R') : valR x y es R = valR x y es R' := by
  unfold valR; rw [rkA_ker es h, tut_ker _ es _ _ _ _ h]
theorem valR_move (x y : Int) (e : Nat × Nat) (l1 l2 : List (Nat × Nat)) (R : Nat → Nat) : valR x y (l1 ++ e :: l2) R = valR x y (e :: (l1 ++ l2)) R := by
  unfold valR; rw [rkA_move, tut_move]
theorem valR_none (x y : Int) (R : Nat → Nat) : valR x y [] R = 1 := by simp [valR, tut, valLeaf, rkA]
theorem valR_loop (x y : Int) {e : Nat × Nat} {R : Nat → Nat} (h : R e.1 = R e.2) (es : List (Nat × Nat)) : valR x y (e :: es) R = y * valR x y es R := by
  unfold valR
  rw [rkA_loop h, tut_loop _ h, tut_leafR (leaf := valLeaf x y (rkA es R)) (leaf' := valLeaf x y (rkA es R)) (c := y - 1) es R (0 + 1) 0 0 0 fun a b h1 h2 h3 => by
    unfold valLeaf
    rw [show 0 + 1 + a - (0 + b) = (0 + a - (0 + b)) + 1 by omega, Int.pow_succ]
    rw [Int.mul_comm ((y - 1) ^ _) (y - 1), Int.mul_left_comm]]
  rw [Int.sub_mul, Int.one_mul]; omega
theorem valR_shift (x y : Int) {e : Nat × Nat} {R : Nat → Nat} (h : R e.1 ≠ R e.2) (es : List (Nat × Nat)) : tut (valLeaf x y (rkA (e :: es) R)) es (glue R e.1 e.2) (0 + 1) (0 + 1) = valR x y es (glue R e.1 e.2) := by
  unfold valR
  rw [rkA_join h]
  rw [tut_leafR (leaf := valLeaf x y (rkA es (glue R e.1 e.2) + 1)) (leaf' := valLeaf x y (rkA es (glue R e.1 e.2))) (c := 1) es _ (0 + 1) (0 + 1) 0 0 fun a b h1 h2 h3 => by
    unfold valLeaf
    rw [show rkA es (glue R e.1 e.2) + 1 - (0 + 1 + b) = rkA es (glue R e.1 e.2) - (0 + b) by omega, show 0 + 1 + a - (0 + 1 + b) = 0 + a - (0 + b) by omega, Int.one_mul]]
  rw [Int.one_mul]
theorem valR_bridge (x y : Int) {e : Nat × Nat} {R : Nat → Nat} {es : List (Nat × Nat)} (h : allR es R e.1 ≠ allR es R e.2) : valR x y (e :: es) R = x * valR x y es (glue R e.1 e.2) := by
  have hr : R e.1 ≠ R e.2 := fun h' => h (allR_sub es R _ _ h')
  have h1 := rkA_join hr es
  have h2 := rkA_first e es R
  rw [if_neg h] at h2
  have hb : ∃ F : Nat → Nat, Sub R F ∧ (∀ f ∈ es, F f.1 = F f.2) ∧ F e.1 ≠ F e.2 := ⟨_, allR_sub es R, allR_has es R, h⟩
  show tut (valLeaf x y (rkA (e :: es) R)) (e :: es) R 0 0 = _
  rw [tut_join _ hr, valR_shift x y hr, tut_bridge _ es R 0 0 hb]
  have h3 : rkA (e :: es) R = rkA es (glue R e.1 e.2) + 1 := h1
  rw [h3, tut_leafR (leaf := valLeaf x y (rkA es (glue R e.1 e.2) + 1)) (leaf' := valLeaf x y (rkA es (glue R e.1 e.2))) (c := x - 1) es _ 0 0 0 0 fun a b h1 h2 h3 => by
    unfold valLeaf
    rw [show rkA es (glue R e.1 e.2) + 1 - (0 + b) = (rkA es (glue R e.1 e.2) - (0 + b)) + 1 by omega, Int.pow_succ, Int.mul_comm ((x - 1) ^ _) (x - 1), Int.mul_assoc]]
  show (x - 1) * valR x y es _ + _ = _
  rw [Int.sub_mul, Int.one_mul]; omega
theorem valR_both (x y : Int) {e : Nat × Nat} {R : Nat → Nat} {es : List (Nat × Nat)} (hr : R e.1 ≠ R e.2) (h : allR es R e.1 = allR es R e.2) : valR x y (e :: es) R = valR x y es R + valR x y es (glue R e.1 e.2) := by
  have h2 := rkA_first e es R
  rw [if_pos h, Nat.add_zero] at h2
  show tut (valLeaf x y (rkA (e :: es) R)) (e :: es) R 0 0 = _
  rw [tut_join _ hr, valR_shift x y hr, h2]
  rfl
/-- The value, found edge by edge. -/
def edgeV (x y : Int) : List (Nat × Nat) → (Nat → Nat) → Int
  | [], _ => 1
  | e :: es, R => if R e.1 = R e.2 then y * edgeV x y es R else if allR es R e.1 = allR es R e.2 then edgeV x y es R + edgeV x y es (glue R e.1 e.2) else x * edgeV x y es (glue R e.1 e.2)
theorem edge_val (x y : Int) : ∀ (es : List (Nat × Nat)) (R : Nat → Nat), edgeV x y es R = valR x y es R
  | [], R => (valR_none x y R).symm
  | e :: es, R => by
    simp only [edgeV]
    rw [edge_val x y es R, edge_val x y es (glue R e.1 e.2)]
    by_cases h : R e.1 = R e.2
    · rw [if_pos h, valR_loop x y h]
    · rw [if_neg h]
      by_cases h2 : allR es R e.1 = allR es R e.2
      · rw [if_pos h2, valR_both x y h h2]
      · rw [if_neg h2, valR_bridge x y h2]
end Go.Proofs.Ytdacfeebidhgnaa

/- Plain facts on least states and their first edges: the sum over them is the value. -/
namespace Go.Proofs.Ytdacfeebidhgnaa
set_option maxRecDepth 100000

/-- The edges that are there. -/
def selL : List (Nat × Nat) → (Nat → Bool) → List (Nat × Nat)
  | [], _ => []
  | e :: es, T => if T 0 = true then e :: selL es (fun i => T (i + 1)) else selL es (fun i => T (i + 1))
theorem rankL_sel : ∀ (es : List (Nat × Nat)) (T : Nat → Bool) (R : Nat → Nat), rankL es T R = rkA (selL es T) R
  | [], _, _ => rfl
  | e :: es, T, R => by
    simp only [rankL, selL]
    rw [rankL_sel es _ R, rankL_sel es _ (glue R e.1 e.2)]
    by_cases h : T 0 = true
    · rw [if_pos h, if_pos h]; rfl
    · rw [if_neg h, if_neg h]
theorem repL_sel : ∀ (es : List (Nat × Nat)) (T : Nat → Bool) (R : Nat → Nat), repL es T R = allR (selL es T) R
  | [], _, _ => rfl
  | e :: es, T, R => by
    simp only [repL, selL]
    rw [repL_sel es _ _]
    by_cases h : T 0 = true
    · rw [if_pos h, if_pos h]; rfl
    · rw [if_neg h, if_neg h]
theorem selL_sub : ∀ (es : List (Nat × Nat)) (T : Nat → Bool), (selL es T).Sublist es
  | [], _ => List.Sublist.slnil
  | e :: es, T => by
    simp only [selL]
    split
    · exact (selL_sub es _).cons_cons e
    · exact (selL_sub es _).cons e
theorem selL_congr : ∀ (es : List (Nat × Nat)) {T T' : Nat → Bool}, (∀ i, i < es.length → T i = T' i) → selL es T = selL es T'
  | [], _, _, _ => rfl
  | e :: es, T, T', h => by
    simp only [selL]
    rw [h 0 (by simp), selL_congr es (T := fun i => T (i + 1)) (T' := fun i => T' (i + 1)) fun i hi => h (i + 1) (by simp only [List.length_cons]; omega)]
theorem selL_last (e : Nat × Nat) : ∀ (l : List (Nat × Nat)) (T : Nat → Bool), selL (l ++ [e]) T = if T l.length = true then selL l T ++ [e] else selL l T
  | [], T => by simp [selL]
  | f :: l, T => by
    simp only [List.cons_append, selL, List.length_cons]
    rw [selL_last e l]
    by_cases h : T 0 = true <;> by_cases h2 : T (l.length + 1) = true <;> simp [h, h2]
theorem card_shift (T : Nat → Bool) : ∀ k, card T (k + 1) = (if T 0 = true then 1 else 0) + card (fun i => T (i + 1)) k
  | 0 => by simp [card]
  | k + 1 => by
    rw [card, card_shift T k, card]; omega
theorem selL_card : ∀ (es : List (Nat × Nat)) (T : Nat → Bool), (selL es T).length = card T es.length
  | [], _ => rfl
  | e :: es, T => by
    rw [List.length_cons, card_shift, ← selL_card es]
    simp only [selL]
    split
    · rw [List.length_cons]; omega
    · omega
theorem rkA_sublist {l l' : List (Nat × Nat)} (h : l'.Sublist l) : ∀ R, rkA l' R ≤ rkA l R := by
  induction h with
  | slnil => exact fun _ => Nat.le_refl _
  | cons a _ ih => exact fun R => Nat.le_trans (ih R) (rkA_le_cons a _ R)
  | cons_cons a _ ih =>
    intro R
    simp only [rkA]
    split
    · exact ih R
    · have := ih (glue R a.1 a.2); omega
/-- A least state. -/
def baseB (es : List (Nat × Nat)) (R : Nat → Nat) (T : Nat → Bool) : Bool := decide (rkA (selL es T) R = rkA es R) && decide ((selL es T).length = rkA es R)
theorem baseB_iff {es : List (Nat × Nat)} {R : Nat → Nat} {T : Nat → Bool} : baseB es R T = true ↔ rkA (selL es T) R = rkA es R ∧ (selL es T).length = rkA es R := by simp [baseB]
theorem baseB_congr {es : List (Nat × Nat)} {T T' : Nat → Bool} (h : ∀ i, i < es.length → T i = T' i) (R : Nat → Nat) : baseB es R T = baseB es R T' := by unfold baseB; rw [selL_congr es h]
theorem base_off {l : List (Nat × Nat)} {e : Nat × Nat} {R : Nat → Nat} {T : Nat → Bool} (hT : T l.length = false) : baseB (l ++ [e]) R T = (decide (allR l R e.1 = allR l R e.2) && baseB l R T) := by
  rw [Bool.eq_iff_iff, baseB_iff, Bool.and_eq_true, decide_eq_true_eq, baseB_iff, selL_last, rkA_last, hT]
  have h1 := rkA_sublist (selL_sub l T) R
  rw [if_neg (by simp)]
  by_cases h : allR l R e.1 = allR l R e.2
  · rw [if_pos h]; simp [h]
  · rw [if_neg h]; simp only [h, false_and, iff_false]; omega
theorem base_on {l : List (Nat × Nat)} {e : Nat × Nat} {R : Nat → Nat} {T : Nat → Bool} (hT : T l.length = true) : baseB (l ++ [e]) R T = (!decide (R e.1 = R e.2) && baseB l (glue R e.1 e.2) T) := by
  rw [Bool.eq_iff_iff, baseB_iff, Bool.and_eq_true, Bool.not_eq_true', decide_eq_false_iff_not, baseB_iff, selL_last, if_pos hT, rkA_move, rkA_move, List.append_nil, List.append_nil, List.length_append]
  have h2 := rkA_len (selL l T) R
  simp only [rkA, List.length_cons, List.length_nil]
  by_cases h : R e.1 = R e.2
  · rw [if_pos h, if_pos h]; simp only [h, not_true, false_and, iff_false]; omega
  · rw [if_neg h, if_neg h]; simp only [h, not_false_eq_true, true_and]; omega
def flipT (T : Nat → Bool) (k i : Nat) : Bool := if i = k then !T i else T i
theorem flipT_flip (T : Nat → Bool) (k : Nat) : flipT (flipT T k) k = T := by
  funext i; unfold flipT; split <;> simp
theorem flipT_zero (T : Nat → Bool) : (fun i => flipT T 0 (i + 1)) = fun i => T (i + 1) := by funext i; simp [flipT]
theorem flipT_succ (T : Nat → Bool) (k : Nat) : (fun i => flipT T (k + 1) (i + 1)) = flipT (fun i => T (i + 1)) k := by funext i; simp [flipT]
/-- One edge that is there. -/
theorem sel_pos : ∀ (l : List (Nat × Nat)) (T : Nat → Bool) {L1 L2 : List (Nat × Nat)} {f : Nat × Nat}, selL l T = L1 ++ f :: L2 → ∃ k, k < l.length ∧ T k = true ∧ selL l (flipT T k) = L1 ++ L2
  | [], T, L1, L2, f, h => by simp [selL] at h
  | e :: l, T, L1, L2, f, h => by
    by_cases h0 : T 0 = true
    · simp only [selL, if_pos h0] at h
      cases L1 with
      | nil =>
        refine ⟨0, by simp, h0, ?_⟩
        simp only [selL]
        rw [flipT_zero]
        simp only [List.nil_append, List.cons.injEq] at h
        rw [if_neg (by simp [flipT, h0]), h.2]; rfl
      | cons g L1 =>
        simp only [List.cons_append, List.cons.injEq] at h
        obtain ⟨k, h1, h2, h3⟩ := sel_pos l _ h.2
        refine ⟨k + 1, by simp only [List.length_cons]; omega, h2, ?_⟩
        simp only [selL]
        rw [flipT_succ, h3, if_pos (by simp [flipT, h0]), h.1]; rfl
    · simp only [selL, if_neg h0] at h
      obtain ⟨k, h1, h2, h3⟩ := sel_pos l _ h
      refine ⟨k + 1, by simp only [List.length_cons]; omega, h2, ?_⟩
      simp only [selL]
      rw [flipT_succ, h3, if_neg (by simp [flipT, h0])]
/-- One edge by its place. -/
theorem sel_at : ∀ (l : List (Nat × Nat)) (T : Nat → Bool) {k : Nat} {f : Nat × Nat}, l[k]? = some f → T k = true → ∃ L1 L2, selL l T = L1 ++ f :: L2 ∧ selL l (flipT T k) = L1 ++ L2
  | [], T, k, f, h, _ => by simp at h
  | e :: l, T, 0, f, h, hT => by
    simp only [List.getElem?_cons_zero, Option.some.injEq] at h
    subst h
    refine ⟨[], selL l (fun i => T (i + 1)), ?_, ?_⟩
    · simp only [selL, if_pos hT]; rfl
    · simp only [selL]; rw [flipT_zero, if_neg (by simp [flipT, hT])]; rfl
  | e :: l, T, k + 1, f, h, hT => by
    rw [List.getElem?_cons_succ] at h
    obtain ⟨L1, L2, h1, h2⟩ := sel_at l (fun i => T (i + 1)) h hT
    simp only [selL]
    rw [flipT_succ, h2, h1]
    by_cases h0 : T 0 = true
    · exact ⟨e :: L1, L2, by rw [if_pos h0]; rfl, by rw [if_pos (by simp [flipT, h0])]; rfl⟩
    · exact ⟨L1, L2, by rw [if_neg h0], by rw [if_neg (by simp [flipT, h0])]⟩
/-- An edge whose ends are joined can be exchanged for one of those that join them. -/
theorem exch {e : Nat × Nat} : ∀ (L : List (Nat × Nat)) (R : Nat → Nat), R e.1 ≠ R e.2 → allR L R e.1 = allR L R e.2 → ∃ L1 f L2, L = L1 ++ f :: L2 ∧ allR (L1 ++ L2) (glue R e.1 e.2) f.1 = allR (L1 ++ L2) (glue R e.1 e.2) f.2
  | [], R, h, h2 => absurd h2 h
  | f :: L, R, h, h2 => by
    by_cases hj : glue R f.1 f.2 e.1 = glue R f.1 f.2 e.2
    · refine ⟨[], f, L, rfl, allR_sub L _ _ _ ?_⟩
      rw [glue_eq] at hj ⊢
      omega
    · obtain ⟨L1, g, L2, h3, h4⟩ := exch L (glue R f.1 f.2) hj h2
      refine ⟨f :: L1, g, L2, by rw [h3]; rfl, ?_⟩
      exact (allR_ker (L1 ++ L2) (Ker.comm R f.1 f.2 e.1 e.2) _ _).1 h4
theorem span_all {S l : List (Nat × Nat)} {R : Nat → Nat} (hs : S.Sublist l) (h : rkA S R = rkA l R) : ∀ f ∈ l, allR S R f.1 = allR S R f.2 := fun f hf => by
  have h1 := rkA_last f S R
  have h2 := rkA_last f l R
  rw [if_pos (allR_has l R f hf)] at h2
  have h3 := rkA_sublist (hs.append (List.Sublist.refl [f])) R
  by_cases hj : allR S R f.1 = allR S R f.2
  · exact hj
  · rw [if_neg hj] at h1; omega
theorem base_ring {l : List (Nat × Nat)} {e : Nat × Nat} {R : Nat → Nat} {T : Nat → Bool} (h1 : R e.1 ≠ R e.2) (h2 : allR l R e.1 = allR l R e.2) (hb : baseB l R T = true) : ∃ k, k < l.length ∧ baseB l (glue R e.1 e.2) (flipT T k) = true := by
  obtain ⟨b1, b2⟩ := baseB_iff.1 hb
  have hj : allR (selL l T) R e.1 = allR (selL l T) R e.2 := allR_least l (allR_sub _ R) (span_all (selL_sub l T) b1) _ _ h2
  obtain ⟨L1, f, L2, h3, h4⟩ := exch _ R h1 hj
  obtain ⟨k, hk, hT, h5⟩ := sel_pos l T h3
  refine ⟨k, hk, baseB_iff.2 ?_⟩
  have r1 := rkA_first e l R
  rw [if_pos h2, rkA_join h1] at r1
  have r2 := rkA_first e (selL l T) R
  rw [if_pos hj, rkA_join h1] at r2
  have r3 : rkA (selL l T) (glue R e.1 e.2) = rkA (L1 ++ L2) (glue R e.1 e.2) := by
    rw [h3, rkA_move, rkA_first, if_pos h4]; rfl
  have r4 : (selL l T).length = (L1 ++ L2).length + 1 := by rw [h3]; simp; omega
  rw [h5]
  omega
theorem base_cut {l : List (Nat × Nat)} {e : Nat × Nat} {R : Nat → Nat} {T : Nat → Bool} (h1 : R e.1 ≠ R e.2) (h2 : allR l R e.1 = allR l R e.2) (hb : baseB l (glue R e.1 e.2) T = true) : ∃ k, k < l.length ∧ baseB l R (flipT T k) = true := by
  obtain ⟨b1, b2⟩ := baseB_iff.1 hb
  have r1 := rkA_first e l R
  rw [if_pos h2, rkA_join h1] at r1
  have r2 := rkA_first e (selL l T) R
  rw [rkA_join h1] at r2
  have r3 := rkA_len (selL l T) R
  have r4 : ¬ allR (selL l T) R e.1 = allR (selL l T) R e.2 := fun h => by rw [if_pos h] at r2; omega
  rw [if_neg r4] at r2
  have h3 : ¬ ∀ f ∈ l, allR (selL l T) R f.1 = allR (selL l T) R f.2 := fun h => r4 (allR_least l (allR_sub _ R) h _ _ h2)
  obtain ⟨f, hf, hne⟩ : ∃ f, f ∈ l ∧ ¬ allR (selL l T) R f.1 = allR (selL l T) R f.2 := by
    refine Classical.byContradiction fun h => h3 fun f hf => Classical.byContradiction fun hn => h ⟨f, hf, hn⟩
  obtain ⟨k, hk, hkf⟩ := List.getElem_of_mem hf
  have hkf' : l[k]? = some f := by rw [List.getElem?_eq_getElem hk, hkf]
  have hT : T k = false := by
    cases hT : T k with
    | false => rfl
    | true =>
      obtain ⟨L1, L2, h4, -⟩ := sel_at l T hkf' hT
      exact absurd (allR_has (selL l T) R f (by rw [h4]; simp)) hne
  obtain ⟨L1, L2, h4, h5⟩ := sel_at l (flipT T k) hkf' (by simp [flipT, hT])
  rw [flipT_flip] at h5
  refine ⟨k, hk, baseB_iff.2 ?_⟩
  have r5 := rkA_first f (selL l T) R
  rw [if_neg hne] at r5
  have r6 : rkA (selL l (flipT T k)) R = rkA (f :: selL l T) R := by rw [h4, rkA_move, h5]
  have r7 : (selL l (flipT T k)).length = (selL l T).length + 1 := by rw [h4, h5]; simp; omega
  omega
/-- The edge at i cannot be exchanged for one before it. -/
def firstB (es : List (Nat × Nat)) (R : Nat → Nat) (T : Nat → Bool) (i : Nat) : Bool := (List.range i).all fun k => !baseB es R (flipT (flipT T i) k)
theorem firstB_iff {es : List (Nat × Nat)} {R : Nat → Nat} {T : Nat → Bool} {i : Nat} : firstB es R T i = true ↔ ∀ k, k < i → baseB es R (flipT (flipT T i) k) = false := by
  unfold firstB
  rw [List.all_eq_true]
  constructor
  · intro h k hk; have := h k (List.mem_range.2 hk); simpa using this
  · intro h k hk; rw [h k (List.mem_range.1 hk)]; rfl
theorem flipT_far (T : Nat → Bool) {k i : Nat} (h : i ≠ k) : flipT T k i = T i := by unfold flipT; rw [if_neg h]
theorem flipT_at (T : Nat → Bool) (k : Nat) : flipT T k k = !T k := by unfold flipT; rw [if_pos rfl]
theorem flipT_congr {T T' : Nat → Bool} {n : Nat} (h : ∀ i, i < n → T i = T' i) (k : Nat) : ∀ i, i < n → flipT T k i = flipT T' k i := fun i hi => by unfold flipT; rw [h i hi]
theorem firstB_congr {es : List (Nat × Nat)} {T T' : Nat → Bool} (h : ∀ i, i < es.length → T i = T' i) (R : Nat → Nat) (i : Nat) : firstB es R T i = firstB es R T' i := by
  unfold firstB
  congr 1
  funext k
  rw [baseB_congr (flipT_congr (flipT_congr h i) k)]
theorem first_off {l : List (Nat × Nat)} {e : Nat × Nat} {R : Nat → Nat} {T : Nat → Bool} (hT : T l.length = false) (h : allR l R e.1 = allR l R e.2) {i : Nat} (hi : i < l.length) : firstB (l ++ [e]) R T i = firstB l R T i := by
  rw [Bool.eq_iff_iff, firstB_iff, firstB_iff]
  refine forall_congr' fun k => forall_congr' fun hk => ?_
  rw [base_off (by rw [flipT_far _ (by omega), flipT_far _ (by omega), hT])]
  simp [h]
theorem first_on {l : List (Nat × Nat)} {e : Nat × Nat} {R : Nat → Nat} {T : Nat → Bool} (hT : T l.length = true) (h : R e.1 ≠ R e.2) {i : Nat} (hi : i < l.length) : firstB (l ++ [e]) R T i = firstB l (glue R e.1 e.2) T i := by
  rw [Bool.eq_iff_iff, firstB_iff, firstB_iff]
  refine forall_congr' fun k => forall_congr' fun hk => ?_
  rw [base_on (by rw [flipT_far _ (by omega), flipT_far _ (by omega), hT])]
  simp [h]
/-- What a least state adds: how many edges that are there are first, and how many that are not. -/
def inC (es : List (Nat × Nat)) (R : Nat → Nat) (T : Nat → Bool) : Nat := card (fun i => T i && firstB es R T i) es.length
def outC (es : List (Nat × Nat)) (R : Nat → Nat) (T : Nat → Bool) : Nat := card (fun i => !T i && firstB es R T i) es.length
theorem card_same {p q : Nat → Bool} : ∀ k, (∀ i, i < k → p i = q i) → card p k = card q k
  | 0, _ => rfl
  | k + 1, h => by rw [card, card, card_same k fun i hi => h i (by omega), h k (by omega)]
theorem inC_congr {es : List (Nat × Nat)} {T T' : Nat → Bool} (h : ∀ i, i < es.length → T i = T' i) (R : Nat → Nat) : inC es R T = inC es R T' := card_same _ fun i hi => by rw [h i hi, firstB_congr h]
theorem outC_congr {es : List (Nat × Nat)} {T T' : Nat → Bool} (h : ∀ i, i < es.length → T i = T' i) (R : Nat → Nat) : outC es R T = outC es R T' := card_same _ fun i hi => by rw [h i hi, firstB_congr h]
def actT (x y : Int) (es : List (Nat × Nat)) (R : Nat → Nat) (T : Nat → Bool) : Int := if baseB es R T = true then x ^ inC es R T * y ^ outC es R T else 0
theorem actT_congr (x y : Int) {es : List (Nat × Nat)} {T T' : Nat → Bool} (h : ∀ i, i < es.length → T i = T' i) (R : Nat → Nat) : actT x y es R T = actT x y es R T' := by
  unfold actT; rw [baseB_congr h, inC_congr h, outC_congr h]
theorem act_off (x y : Int) {l : List (Nat × Nat)} {e : Nat × Nat} {R : Nat → Nat} {T : Nat → Bool} (hT : T l.length = false) :
    actT x y (l ++ [e]) R T = if R e.1 = R e.2 then y * actT x y l R T else if allR l R e.1 = allR l R e.2 then actT x y l R T else 0 := by
  unfold actT
  rw [base_off hT]
  by_cases hj : allR l R e.1 = allR l R e.2
  · simp only [hj, decide_true, Bool.true_and, if_true]
    by_cases hb : baseB l R T = true
    · rw [if_pos hb]
      have h1 : inC (l ++ [e]) R T = inC l R T := by
        unfold inC
        rw [List.length_append, List.length_singleton, card, hT]
        simp only [Bool.false_and, Bool.false_eq_true, if_false, Nat.add_zero]
        exact card_same _ fun i hi => by rw [first_off hT hj hi]
      have h2 : outC (l ++ [e]) R T = outC l R T + if firstB (l ++ [e]) R T l.length = true then 1 else 0 := by
        unfold outC
        rw [List.length_append, List.length_singleton, card, hT]
        simp only [Bool.not_false, Bool.true_and]
        rw [card_same (q := fun i => !T i && firstB l R T i) _ fun i hi => by rw [first_off hT hj hi]]
      rw [h1, h2]
      by_cases hl : R e.1 = R e.2
      · have h3 : firstB (l ++ [e]) R T l.length = true := firstB_iff.2 fun k hk => by
          rw [base_on (by rw [flipT_far _ (by omega), flipT_at, hT]; rfl)]; simp [hl]
        rw [if_pos hl, if_pos h3, if_pos hb, Int.pow_succ, ← Int.mul_assoc, Int.mul_comm _ y]
      · have h3 : ¬ firstB (l ++ [e]) R T l.length = true := fun h => by
          obtain ⟨k, hk, h4⟩ := base_ring hl hj hb
          have := firstB_iff.1 h k hk
          rw [base_on (by rw [flipT_far _ (by omega), flipT_at, hT]; rfl)] at this
          rw [baseB_congr (T' := flipT T k) (flipT_congr (fun i hi => flipT_far T (by omega)) k) , h4] at this
          simp [hl] at this
        rw [if_neg hl, if_neg h3, if_pos hb]; rfl
    · rw [if_neg hb, if_neg hb]; simp
  · have hl : ¬ R e.1 = R e.2 := fun h => hj (allR_sub l R _ _ h)
    rw [if_neg hl, if_neg hj]; simp [hj]
theorem act_on (x y : Int) {l : List (Nat × Nat)} {e : Nat × Nat} {R : Nat → Nat} {T : Nat → Bool} (hT : T l.length = true) :
    actT x y (l ++ [e]) R T = if R e.1 = R e.2 then 0 else if allR l R e.1 = allR l R e.2 then actT x y l (glue R e.1 e.2) T else x * actT x y l (glue R e.1 e.2) T := by
  unfold actT
  rw [base_on hT]
  by_cases hl : R e.1 = R e.2
  · rw [if_pos hl]; simp [hl]
  · simp only [hl, decide_false, Bool.not_false, Bool.true_and, if_false]
    by_cases hb : baseB l (glue R e.1 e.2) T = true
    · rw [if_pos hb]
      have h1 : outC (l ++ [e]) R T = outC l (glue R e.1 e.2) T := by
        unfold outC
        rw [List.length_append, List.length_singleton, card, hT]
        simp only [Bool.not_true, Bool.false_and, Bool.false_eq_true, if_false, Nat.add_zero]
        exact card_same _ fun i hi => by rw [first_on hT hl hi]
      have h2 : inC (l ++ [e]) R T = inC l (glue R e.1 e.2) T + if firstB (l ++ [e]) R T l.length = true then 1 else 0 := by
        unfold inC
        rw [List.length_append, List.length_singleton, card, hT]
        simp only [Bool.true_and]
        rw [card_same (q := fun i => T i && firstB l (glue R e.1 e.2) T i) _ fun i hi => by rw [first_on hT hl hi]]
      rw [h1, h2]
      by_cases hj : allR l R e.1 = allR l R e.2
      · have h3 : ¬ firstB (l ++ [e]) R T l.length = true := fun h => by
          obtain ⟨k, hk, h4⟩ := base_cut hl hj hb
          have := firstB_iff.1 h k hk
          rw [base_off (by rw [flipT_far _ (by omega), flipT_at, hT]; rfl)] at this
          rw [baseB_congr (T' := flipT T k) (flipT_congr (fun i hi => flipT_far T (by omega)) k) , h4] at this
          simp [hj] at this
        rw [if_pos hj, if_neg h3, if_pos hb]; rfl
      · have h3 : firstB (l ++ [e]) R T l.length = true := firstB_iff.2 fun k hk => by
          rw [base_off (by rw [flipT_far _ (by omega), flipT_at, hT]; rfl)]; simp [hj]
        rw [if_neg hj, if_pos h3, if_pos hb, Int.pow_succ, Int.mul_comm _ x, Int.mul_assoc]
    · rw [if_neg hb, if_neg hb]; simp
theorem sumS_more (f : Nat → Int) (a : Nat) : ∀ b, sumS f (a + b) = sumS f a + sumS (fun k => f (a + k)) b
  | 0 => by simp [sumS]
  | b + 1 => by
    rw [← Nat.add_assoc]
    simp only [sumS, sumS_more f a b]; omega
theorem sumS_times (c : Int) (f : Nat → Int) : ∀ n, sumS (fun k => c * f k) n = c * sumS f n
  | 0 => by simp [sumS]
  | n + 1 => by simp only [sumS, sumS_times c f n, Int.mul_add]
theorem sumS_nil {f : Nat → Int} (h : ∀ k, f k = 0) : ∀ n, sumS f n = 0
  | 0 => rfl
  | n + 1 => by simp only [sumS, sumS_nil h n, h n]; rfl
/-- The sum over all least states. -/
def actR (x y : Int) (es : List (Nat × Nat)) (R : Nat → Nat) : Int := sumS (fun s => actT x y es R fun i => s.testBit i) (2 ^ es.length)
theorem bit_top_off {m s : Nat} (h : s < 2 ^ m) : s.testBit m = false := Nat.testBit_lt_two_pow h
theorem bit_top_on {m s : Nat} (h : s < 2 ^ m) : (2 ^ m + s).testBit m = true := by rw [Nat.testBit_two_pow_add_eq, bit_top_off h]; rfl
theorem bit_low {m s i : Nat} (hi : i < m) : (2 ^ m + s).testBit i = s.testBit i := Nat.testBit_two_pow_add_gt hi s
theorem act_last (x y : Int) (l : List (Nat × Nat)) (e : Nat × Nat) (R : Nat → Nat) :
    actR x y (l ++ [e]) R = if R e.1 = R e.2 then y * actR x y l R else if allR l R e.1 = allR l R e.2 then actR x y l R + actR x y l (glue R e.1 e.2) else x * actR x y l (glue R e.1 e.2) := by
  unfold actR
  rw [List.length_append, List.length_singleton, Nat.pow_succ, Nat.mul_two, sumS_more]
  have h1 := sumS_congr (f := fun s => actT x y (l ++ [e]) R fun i => s.testBit i) (2 ^ l.length) fun s hs => act_off x y (l := l) (e := e) (R := R) (T := fun i => s.testBit i) (bit_top_off hs)
  have h2 := sumS_congr (f := fun s => actT x y (l ++ [e]) R fun i => (2 ^ l.length + s).testBit i) (2 ^ l.length) fun s hs => (act_on x y (l := l) (e := e) (R := R) (T := fun i => (2 ^ l.length + s).testBit i) (bit_top_on hs)).trans (by
    rw [actT_congr x y (T' := fun i => s.testBit i) fun i hi => bit_low hi])
  rw [h1, h2]
  by_cases hl : R e.1 = R e.2
  · simp only [if_pos hl]
    rw [sumS_times, sumS_nil fun _ => rfl]; omega
  · simp only [if_neg hl]
    by_cases hj : allR l R e.1 = allR l R e.2
    · simp only [if_pos hj]
    · simp only [if_neg hj]
      rw [sumS_times, sumS_nil fun _ => rfl]; omega
theorem act_val (x y : Int) : ∀ (m : Nat) (es : List (Nat × Nat)) (R : Nat → Nat), es.length = m → actR x y es R = valR x y es R
  | 0, es, R, h => by
    obtain rfl := List.eq_nil_of_length_eq_zero h
    rw [valR_none]
    have hb : baseB [] R (fun i => Nat.testBit 0 i) = true := baseB_iff.2 ⟨rfl, rfl⟩
    show 0 + actT x y [] R (fun i => Nat.testBit 0 i) = 1
    unfold actT
    rw [if_pos hb]
    simp [inC, outC, card]
  | m + 1, es, R, h => by
    obtain ⟨l, e, rfl⟩ : ∃ l e, es = l ++ [e] := ⟨es.dropLast, es.getLast (by intro h'; rw [h'] at h; cases h), (List.dropLast_concat_getLast _).symm⟩
    have hl : l.length = m := by simp at h; exact h
    rw [act_last, valR_move, List.append_nil, act_val x y m l R hl, act_val x y m l _ hl]
    by_cases h1 : R e.1 = R e.2
    · rw [if_pos h1, valR_loop x y h1]
    · rw [if_neg h1]
      by_cases h2 : allR l R e.1 = allR l R e.2
      · rw [if_pos h2, valR_both x y h1 h2]
      · rw [if_neg h2, valR_bridge x y h2]
end Go.Proofs.Ytdacfeebidhgnaa
