/- Plain facts on the value of two numbers: ranks of lists of edges from a start on, deletion and making one. -/
import Derived.Test.YtdacfeebidhgnaaTutte
namespace Go.Proofs.Ytdacfeebidhgnaa
set_option maxRecDepth 100000

/-- What all edges join, from R on. -/
def allR : List (Nat × Nat) → (Nat → Nat) → Nat → Nat
  | [], R => R
  | e :: es, R => allR es (glue R e.1 e.2)
/-- The rank of all edges, from R on. -/
def rkA : List (Nat × Nat) → (Nat → Nat) → Nat
  | [], _ => 0
  | e :: es, R => if R e.1 = R e.2 then rkA es R else rkA es (glue R e.1 e.2) + 1
theorem rkA_loop {e : Nat × Nat} {R : Nat → Nat} (h : R e.1 = R e.2) (es : List (Nat × Nat)) : rkA (e :: es) R = rkA es R := by simp only [rkA, if_pos h]
theorem rkA_join {e : Nat × Nat} {R : Nat → Nat} (h : R e.1 ≠ R e.2) (es : List (Nat × Nat)) : rkA (e :: es) R = rkA es (glue R e.1 e.2) + 1 := by simp only [rkA, if_neg h]
theorem allR_ker : ∀ (es : List (Nat × Nat)) {R R' : Nat → Nat}, Ker R R' → Ker (allR es R) (allR es R')
  | [], _, _, h => h
  | e :: es, _, _, h => allR_ker es (h.glue e.1 e.2)
theorem rkA_ker : ∀ (es : List (Nat × Nat)) {R R' : Nat → Nat}, Ker R R' → rkA es R = rkA es R'
  | [], _, _, _ => rfl
  | e :: es, R, R', h => by
    simp only [rkA]
    rw [rkA_ker es h, rkA_ker es (h.glue e.1 e.2)]
    simp only [h e.1 e.2]
theorem allR_append (l1 l2 : List (Nat × Nat)) (R : Nat → Nat) : allR (l1 ++ l2) R = allR l2 (allR l1 R) := by
  induction l1 generalizing R with
  | nil => rfl
  | cons e l1 ih => exact ih _
theorem rkA_append : ∀ (l1 l2 : List (Nat × Nat)) (R : Nat → Nat), rkA (l1 ++ l2) R = rkA l1 R + rkA l2 (allR l1 R)
  | [], l2, R => by simp [rkA, allR]
  | e :: l1, l2, R => by
    rw [List.cons_append]
    by_cases h : R e.1 = R e.2
    · rw [rkA_loop h, rkA_loop h, rkA_append l1 l2 R]
      have : rkA l2 (allR (e :: l1) R) = rkA l2 (allR l1 R) := rkA_ker l2 (allR_ker l1 (Ker.joined h))
      rw [this]
    · rw [rkA_join h, rkA_join h, rkA_append l1 l2]
      show _ = _ + rkA l2 (allR l1 (glue R e.1 e.2))
      omega
theorem rkA_swap (e f : Nat × Nat) (es : List (Nat × Nat)) (R : Nat → Nat) : rkA (e :: f :: es) R = rkA (f :: e :: es) R := by
  by_cases h1 : R e.1 = R e.2 <;> by_cases h2 : R f.1 = R f.2
  · rw [rkA_loop h1, rkA_loop h2, rkA_loop h2, rkA_loop h1]
  · have h3 : glue R f.1 f.2 e.1 = glue R f.1 f.2 e.2 := glue_kept h1 _ _
    rw [rkA_loop h1, rkA_join h2, rkA_join h2, rkA_loop h3]
  · have h3 : glue R e.1 e.2 f.1 = glue R e.1 e.2 f.2 := glue_kept h2 _ _
    rw [rkA_loop h2, rkA_join h1, rkA_join h1, rkA_loop h3]
  · rw [rkA_join h1, rkA_join h2]
    by_cases h3 : glue R e.1 e.2 f.1 = glue R e.1 e.2 f.2
    · have h4 : glue R f.1 f.2 e.1 = glue R f.1 f.2 e.2 := by
        rw [glue_eq] at h3 ⊢; omega
      have h5 : Ker (glue R e.1 e.2) (glue R f.1 f.2) := by
        intro x y
        rw [glue_eq, glue_eq]
        rw [glue_eq] at h3; omega
      rw [rkA_loop h3, rkA_loop h4, rkA_ker es h5]
    · have h4 : glue R f.1 f.2 e.1 ≠ glue R f.1 f.2 e.2 := by
        intro h4; apply h3
        rw [glue_eq] at h4 ⊢; omega
      rw [rkA_join h3, rkA_join h4, rkA_ker es (Ker.comm R e.1 e.2 f.1 f.2)]
theorem allR_move (e : Nat × Nat) : ∀ (l1 l2 : List (Nat × Nat)) (R : Nat → Nat), Ker (allR (l1 ++ e :: l2) R) (allR (e :: (l1 ++ l2)) R)
  | [], _, _ => Ker.refl _
  | f :: l1, l2, R => (allR_move e l1 l2 (glue R f.1 f.2)).trans (allR_ker (l1 ++ l2) (Ker.comm R f.1 f.2 e.1 e.2))
theorem rkA_cons_congr {l l' : List (Nat × Nat)} (h : ∀ R, rkA l R = rkA l' R) (e : Nat × Nat) (R : Nat → Nat) : rkA (e :: l) R = rkA (e :: l') R := by
  simp only [rkA]; rw [h, h]
theorem rkA_move (e : Nat × Nat) (l2 : List (Nat × Nat)) : ∀ (l1 : List (Nat × Nat)) (R : Nat → Nat), rkA (l1 ++ e :: l2) R = rkA (e :: (l1 ++ l2)) R
  | [], _ => rfl
  | f :: l1, R => by
    rw [List.cons_append, rkA_cons_congr (rkA_move e l2 l1), rkA_swap, List.cons_append]
theorem rkA_last (e : Nat × Nat) (l : List (Nat × Nat)) (R : Nat → Nat) : rkA (l ++ [e]) R = rkA l R + if allR l R e.1 = allR l R e.2 then 0 else 1 := by
  rw [rkA_append]
  simp only [rkA, Nat.zero_add]
theorem rkA_first (e : Nat × Nat) (l : List (Nat × Nat)) (R : Nat → Nat) : rkA (e :: l) R = rkA l R + if allR l R e.1 = allR l R e.2 then 0 else 1 := by
  rw [← rkA_last, rkA_move, List.append_nil]
theorem rkA_le_cons (e : Nat × Nat) (l : List (Nat × Nat)) (R : Nat → Nat) : rkA l R ≤ rkA (e :: l) R := by rw [rkA_first]; omega
theorem rkA_len : ∀ (l : List (Nat × Nat)) (R : Nat → Nat), rkA l R ≤ l.length
  | [], _ => Nat.le_refl _
  | e :: l, R => by
    have h1 := rkA_len l R
    have h2 := rkA_len l (glue R e.1 e.2)
    simp only [rkA, List.length_cons]
    split <;> omega
theorem allR_sub : ∀ (es : List (Nat × Nat)) (R : Nat → Nat), Sub R (allR es R)
  | [], _ => fun _ _ h => h
  | e :: es, R => fun x y h => allR_sub es (glue R e.1 e.2) x y (glue_kept h _ _)
theorem allR_has : ∀ (es : List (Nat × Nat)) (R : Nat → Nat), ∀ f ∈ es, allR es R f.1 = allR es R f.2
  | [], _, _, h => by simp at h
  | e :: es, R, f, h => by
    rcases List.mem_cons.1 h with rfl | h
    · exact allR_sub es _ _ _ (by rw [glue_self, glue_other])
    · exact allR_has es _ f h
/-- What all edges join is joined in all that joins as R does and the ends of all edges. -/
theorem allR_least : ∀ (es : List (Nat × Nat)) {R F : Nat → Nat}, Sub R F → (∀ f ∈ es, F f.1 = F f.2) → Sub (allR es R) F
  | [], _, _, h, _ => h
  | e :: es, _, _, h, hf => allR_least es (h.glue (hf e (by simp))) fun f h => hf f (by simp [h])
theorem allR_mem {l l' : List (Nat × Nat)} (h : ∀ e ∈ l, e ∈ l') (R : Nat → Nat) : Sub (allR l R) (allR l' R) :=
  allR_least l (allR_sub l' R) fun f hf => allR_has l' R f (h f hf)

theorem tut_leafR {leaf leaf' : Nat → Nat → Int} {c : Int} : ∀ (es : List (Nat × Nat)) (R : Nat → Nat) (t r t' r' : Nat), (∀ a b, b ≤ a → b ≤ rkA es R → a ≤ es.length → leaf (t + a) (r + b) = c * leaf' (t' + a) (r' + b)) → tut leaf es R t r = c * tut leaf' es R t' r'
  | [], _, t, r, t', r', h => h 0 0 (Nat.le_refl _) (Nat.zero_le _) (Nat.zero_le _)
  | e :: es, R, t, r, t', r', h => by
    simp only [tut]
    have hl := rkA_le_cons e es R
    have hc : (e :: es).length = es.length + 1 := rfl
    rw [tut_leafR es R t r t' r' fun a b h1 h2 h3 => h a b h1 (by omega) (by omega)]
    rw [Int.mul_add]
    congr 1
    by_cases hj : R e.1 = R e.2
    · rw [if_pos hj, if_pos hj]
      rw [rkA_loop hj] at h
      exact tut_leafR es R (t + 1) r (t' + 1) r' fun a b h1 h2 h3 => by
        have := h (a + 1) b (by omega) h2 (by omega); rwa [← Nat.add_assoc, ← Nat.add_assoc, Nat.add_right_comm, Nat.add_right_comm t'] at this
    · rw [if_neg hj, if_neg hj]
      rw [rkA_join hj] at h
      exact tut_leafR es (glue R e.1 e.2) (t + 1) (r + 1) (t' + 1) (r' + 1) fun a b h1 h2 h3 => by
        have := h (a + 1) (b + 1) (by omega) (by omega) (by omega)
        rw [show t + 1 + a = t + (a + 1) by omega, show r + 1 + b = r + (b + 1) by omega, show t' + 1 + a = t' + (a + 1) by omega, show r' + 1 + b = r' + (b + 1) by omega]; exact this
/-- An edge that the others do not join changes nothing for them. -/
theorem tut_bridge (leaf : Nat → Nat → Int) {e : Nat × Nat} : ∀ (es : List (Nat × Nat)) (R : Nat → Nat) (t r : Nat), (∃ F : Nat → Nat, Sub R F ∧ (∀ f ∈ es, F f.1 = F f.2) ∧ F e.1 ≠ F e.2) →
    tut leaf es R t r = tut leaf es (glue R e.1 e.2) t r
  | [], R, t, r, _ => rfl
  | f :: es, R, t, r, ⟨F, hs, hj, hne⟩ => by
    have hf := hj f (by simp)
    have hj' : ∀ f ∈ es, F f.1 = F f.2 := fun f h => hj f (by simp [h])
    have h1 := tut_bridge leaf es R t r ⟨F, hs, hj', hne⟩
    by_cases hr : R f.1 = R f.2
    · have h2 := tut_bridge leaf es R (t + 1) r ⟨F, hs, hj', hne⟩
      rw [tut_loop _ hr, tut_loop _ (glue_kept hr _ _)]
      omega
    · have hg : glue R e.1 e.2 f.1 ≠ glue R e.1 e.2 f.2 := fun h => by
        rcases (glue_eq R e.1 e.2 f.1 f.2).1 h with h | ⟨h3, h4⟩
        · exact hr h
        · apply hne
          rcases h3 with h3 | h3 <;> rcases h4 with h4 | h4
          · exact absurd (h3.trans h4.symm) hr
          · rw [← hs _ _ h3, ← hs _ _ h4, hf]
          · rw [← hs _ _ h3, ← hs _ _ h4, hf]
          · exact absurd (h3.trans h4.symm) hr
      have h2 := tut_bridge leaf es (glue R f.1 f.2) (t + 1) (r + 1) ⟨F, hs.glue hf, hj', hne⟩
      rw [tut_join _ hr, tut_join _ hg, tut_ker _ es _ _ _ _ (Ker.comm R e.1 e.2 f.1 f.2)]
      omega

/-- The leaf of the value. -/
def valLeaf (x y : Int) (ρ t r : Nat) : Int := (x - 1) ^ (ρ - r) * (y - 1) ^ (t - r)
/-- The value, from R on. -/
def valR (x y : Int) (es : List (Nat × Nat)) (R : Nat → Nat) : Int := tut (valLeaf x y (rkA es R)) es R 0 0
theorem valR_ker (x y : Int) (es : List (Nat × Nat)) {R R' : Nat → Nat} (h : Ker R R') : valR x y es R = valR x y es R' := by
  unfold valR; rw [rkA_ker es h, tut_ker _ es _ _ _ _ h]
theorem valR_move (x y : Int) (e : Nat × Nat) (l1 l2 : List (Nat × Nat)) (R : Nat → Nat) : valR x y (l1 ++ e :: l2) R = valR x y (e :: (l1 ++ l2)) R := by
  unfold valR; rw [rkA_move, tut_move]
theorem valR_none (x y : Int) (R : Nat → Nat) : valR x y [] R = 1 := by simp [valR, tut, valLeaf, rkA]
theorem valR_loop (x y : Int) {e : Nat × Nat} {R : Nat → Nat} (h : R e.1 = R e.2) (es : List (Nat × Nat)) : valR x y (e :: es) R = y * valR x y es R := by
  unfold valR
  rw [rkA_loop h, tut_loop _ h, tut_leafR (leaf := valLeaf x y (rkA es R)) (leaf' := valLeaf x y (rkA es R)) (c := y - 1) es R (0 + 1) 0 0 0 fun a b h1 h2 h3 => by
    unfold valLeaf
    rw [show 0 + 1 + a - (0 + b) = (0 + a - (0 + b)) + 1 by omega, Int.pow_succ]
    rw [Int.mul_comm ((y - 1) ^ _) (y - 1), Int.mul_left_comm]]
  rw [Int.sub_mul, Int.one_mul]; omega
theorem valR_shift (x y : Int) {e : Nat × Nat} {R : Nat → Nat} (h : R e.1 ≠ R e.2) (es : List (Nat × Nat)) : tut (valLeaf x y (rkA (e :: es) R)) es (glue R e.1 e.2) (0 + 1) (0 + 1) = valR x y es (glue R e.1 e.2) := by
  unfold valR
  rw [rkA_join h]
  rw [tut_leafR (leaf := valLeaf x y (rkA es (glue R e.1 e.2) + 1)) (leaf' := valLeaf x y (rkA es (glue R e.1 e.2))) (c := 1) es _ (0 + 1) (0 + 1) 0 0 fun a b h1 h2 h3 => by
    unfold valLeaf
    rw [show rkA es (glue R e.1 e.2) + 1 - (0 + 1 + b) = rkA es (glue R e.1 e.2) - (0 + b) by omega, show 0 + 1 + a - (0 + 1 + b) = 0 + a - (0 + b) by omega, Int.one_mul]]
  rw [Int.one_mul]
theorem valR_bridge (x y : Int) {e : Nat × Nat} {R : Nat → Nat} {es : List (Nat × Nat)} (h : allR es R e.1 ≠ allR es R e.2) : valR x y (e :: es) R = x * valR x y es (glue R e.1 e.2) := by
  have hr : R e.1 ≠ R e.2 := fun h' => h (allR_sub es R _ _ h')
  have h1 := rkA_join hr es
  have h2 := rkA_first e es R
  rw [if_neg h] at h2
  have hb : ∃ F : Nat → Nat, Sub R F ∧ (∀ f ∈ es, F f.1 = F f.2) ∧ F e.1 ≠ F e.2 := ⟨_, allR_sub es R, allR_has es R, h⟩
  show tut (valLeaf x y (rkA (e :: es) R)) (e :: es) R 0 0 = _
  rw [tut_join _ hr, valR_shift x y hr, tut_bridge _ es R 0 0 hb]
  have h3 : rkA (e :: es) R = rkA es (glue R e.1 e.2) + 1 := h1
  rw [h3, tut_leafR (leaf := valLeaf x y (rkA es (glue R e.1 e.2) + 1)) (leaf' := valLeaf x y (rkA es (glue R e.1 e.2))) (c := x - 1) es _ 0 0 0 0 fun a b h1 h2 h3 => by
    unfold valLeaf
    rw [show rkA es (glue R e.1 e.2) + 1 - (0 + b) = (rkA es (glue R e.1 e.2) - (0 + b)) + 1 by omega, Int.pow_succ, Int.mul_comm ((x - 1) ^ _) (x - 1), Int.mul_assoc]]
  show (x - 1) * valR x y es _ + _ = _
  rw [Int.sub_mul, Int.one_mul]; omega
theorem valR_both (x y : Int) {e : Nat × Nat} {R : Nat → Nat} {es : List (Nat × Nat)} (hr : R e.1 ≠ R e.2) (h : allR es R e.1 = allR es R e.2) : valR x y (e :: es) R = valR x y es R + valR x y es (glue R e.1 e.2) := by
  have h2 := rkA_first e es R
  rw [if_pos h, Nat.add_zero] at h2
  show tut (valLeaf x y (rkA (e :: es) R)) (e :: es) R 0 0 = _
  rw [tut_join _ hr, valR_shift x y hr, h2]
  rfl
/-- The value, found edge by edge. -/
def edgeV (x y : Int) : List (Nat × Nat) → (Nat → Nat) → Int
  | [], _ => 1
  | e :: es, R => if R e.1 = R e.2 then y * edgeV x y es R else if allR es R e.1 = allR es R e.2 then edgeV x y es R + edgeV x y es (glue R e.1 e.2) else x * edgeV x y es (glue R e.1 e.2)
theorem edge_val (x y : Int) : ∀ (es : List (Nat × Nat)) (R : Nat → Nat), edgeV x y es R = valR x y es R
  | [], R => (valR_none x y R).symm
  | e :: es, R => by
    simp only [edgeV]
    rw [edge_val x y es R, edge_val x y es (glue R e.1 e.2)]
    by_cases h : R e.1 = R e.2
    · rw [if_pos h, valR_loop x y h]
    · rw [if_neg h]
      by_cases h2 : allR es R e.1 = allR es R e.2
      · rw [if_pos h2, valR_both x y h h2]
      · rw [if_neg h2, valR_bridge x y h2]
end Go.Proofs.Ytdacfeebidhgnaa
