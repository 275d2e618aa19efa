/- Plain facts on sums over all choices of edges that tell edges and ranks: an edge is there or not; edges that are made one. -/
import Derived.Test.YtgacgaidlbkkmaaCounts
namespace Go.Proofs.Ytgacgaidlbkkmaa
set_option maxRecDepth 100000

/-- The sum over all choices of edges: 'leaf' of how many are there and of the rank, from t and r on. -/
def tut (leaf : Nat → Nat → Int) : List (Nat × Nat) → (Nat → Nat) → Nat → Nat → Int
  | [], _, t, r => leaf t r
  | e :: es, R, t, r => tut leaf es R t r + if R e.1 = R e.2 then tut leaf es R (t + 1) r else tut leaf es (glue R e.1 e.2) (t + 1) (r + 1)

theorem tut_ker (leaf : Nat → Nat → Int) : ∀ (es : List (Nat × Nat)) (R R' : Nat → Nat) (t r : Nat), Ker R R' → tut leaf es R t r = tut leaf es R' t r
  | [], _, _, _, _, _ => rfl
  | e :: es, R, R', t, r, h => by
    simp only [tut]
    rw [tut_ker leaf es R R' t r h, tut_ker leaf es R R' (t + 1) r h, tut_ker leaf es _ _ (t + 1) (r + 1) (h.glue e.1 e.2)]
    simp only [h e.1 e.2]
theorem tut_loop (leaf : Nat → Nat → Int) {e : Nat × Nat} {R : Nat → Nat} (h : R e.1 = R e.2) (es : List (Nat × Nat)) (t r : Nat) :
    tut leaf (e :: es) R t r = tut leaf es R t r + tut leaf es R (t + 1) r := by
  simp only [tut, if_pos h]
theorem tut_join (leaf : Nat → Nat → Int) {e : Nat × Nat} {R : Nat → Nat} (h : R e.1 ≠ R e.2) (es : List (Nat × Nat)) (t r : Nat) :
    tut leaf (e :: es) R t r = tut leaf es R t r + tut leaf es (glue R e.1 e.2) (t + 1) (r + 1) := by
  simp only [tut, if_neg h]
theorem tut_swap (leaf : Nat → Nat → Int) (e f : Nat × Nat) (es : List (Nat × Nat)) (R : Nat → Nat) (t r : Nat) : tut leaf (e :: f :: es) R t r = tut leaf (f :: e :: es) R t r := by
  by_cases h1 : R e.1 = R e.2 <;> by_cases h2 : R f.1 = R f.2
  · rw [tut_loop leaf h1, tut_loop leaf h2, tut_loop leaf h2, tut_loop leaf h2, tut_loop leaf h1, tut_loop leaf h1]
    all_goals omega
  · have h3 : glue R f.1 f.2 e.1 = glue R f.1 f.2 e.2 := glue_kept h1 _ _
    rw [tut_loop leaf h1, tut_join leaf h2, tut_join leaf h2, tut_join leaf h2, tut_loop leaf h1, tut_loop leaf h3]; omega
  · have h3 : glue R e.1 e.2 f.1 = glue R e.1 e.2 f.2 := glue_kept h2 _ _
    rw [tut_loop leaf h2, tut_join leaf h1, tut_join leaf h1, tut_join leaf h1, tut_loop leaf h2, tut_loop leaf h3]; omega
  · rw [tut_join leaf h1, tut_join leaf h2, tut_join leaf h2, tut_join leaf h1]
    by_cases h3 : glue R e.1 e.2 f.1 = glue R e.1 e.2 f.2
    · have h4 : glue R f.1 f.2 e.1 = glue R f.1 f.2 e.2 := by
        rw [glue_eq] at h3 ⊢; omega
      have h5 : Ker (glue R e.1 e.2) (glue R f.1 f.2) := by
        intro x y
        rw [glue_eq, glue_eq]
        rw [glue_eq] at h3; omega
      rw [tut_loop leaf h3, tut_loop leaf h4, tut_ker leaf es _ _ (t + 1 + 1) (r + 1) h5]; omega
    · have h4 : glue R f.1 f.2 e.1 ≠ glue R f.1 f.2 e.2 := by
        intro h4; apply h3
        rw [glue_eq] at h4 ⊢; omega
      rw [tut_join leaf h3, tut_join leaf h4, tut_ker leaf es _ _ (t + 1 + 1) (r + 1 + 1) (Ker.comm R e.1 e.2 f.1 f.2)]; omega
theorem tut_congr (leaf : Nat → Nat → Int) {l l' : List (Nat × Nat)} (h : ∀ R t r, tut leaf l R t r = tut leaf l' R t r) (e : Nat × Nat) (R : Nat → Nat) (t r : Nat) : tut leaf (e :: l) R t r = tut leaf (e :: l') R t r := by
  simp only [tut]; rw [h, h, h]
theorem tut_move (leaf : Nat → Nat → Int) (e : Nat × Nat) (l2 : List (Nat × Nat)) : ∀ (l1 : List (Nat × Nat)) (R : Nat → Nat) (t r : Nat),
    tut leaf (l1 ++ e :: l2) R t r = tut leaf (e :: (l1 ++ l2)) R t r
  | [], _, _, _ => rfl
  | f :: l1, R, t, r => by
    rw [List.cons_append, tut_congr leaf (tut_move leaf e l2 l1), tut_swap, List.cons_append]
theorem tut_rel (leaf : Nat → Nat → Int) {n : Nat} {f : Nat → Nat} : ∀ (es : List (Nat × Nat)) (R R' : Nat → Nat) (t r : Nat), EdgesOk n es → RelK n f R R' → tut leaf es R t r = tut leaf (es.map (mmN f)) R' t r
  | [], _, _, _, _, _, _ => rfl
  | e :: es, R, R', t, r, he, h => by
    have he' : EdgesOk n es := fun x hx => he x (by simp [hx])
    have hee := he e (by simp)
    have hj : R e.1 = R e.2 ↔ R' (mmN f e).1 = R' (mmN f e).2 := by
      rw [h e.1 e.2 hee.1.1 hee.1.2 hee.2.1 hee.2.2]
      simp only [mmN]
      by_cases hlt : f e.1 ≤ f e.2
      · rw [Nat.min_eq_left hlt, Nat.max_eq_right hlt]
      · rw [Nat.min_eq_right (by omega), Nat.max_eq_left (by omega)]; exact eq_comm
    simp only [List.map_cons, tut]
    rw [tut_rel leaf es R R' t r he' h, tut_rel leaf es R R' (t + 1) r he' h, tut_rel leaf es _ _ (t + 1) (r + 1) he' (h.glueM hee.1 hee.2)]
    simp only [hj]
theorem tut_made (leaf : Nat → Nat → Int) {n : Nat} {g : Nat × Nat} (hg : 1 ≤ g.1 ∧ g.1 < g.2 ∧ g.2 ≤ n) (es : List (Nat × Nat)) (he : EdgesOk n es) (t r : Nat) :
    tut leaf es (glue (fun x => x) g.1 g.2) t r = tut leaf (es.map (mmN (renN g))) (fun x => x) t r := tut_rel leaf es _ _ t r he (renN_start hg)
theorem tut_leaf {leaf leaf' : Nat → Nat → Int} {c : Int} : ∀ (es : List (Nat × Nat)) (R : Nat → Nat) (t r t' r' : Nat), (∀ a b, leaf (t + a) (r + b) = c * leaf' (t' + a) (r' + b)) → tut leaf es R t r = c * tut leaf' es R t' r'
  | [], _, t, r, t', r', h => h 0 0
  | e :: es, R, t, r, t', r', h => by
    simp only [tut]
    rw [tut_leaf es R t r t' r' h, tut_leaf es R (t + 1) r (t' + 1) r' (fun a b => by have := h (a + 1) b; rwa [← Nat.add_assoc, ← Nat.add_assoc, Nat.add_right_comm, Nat.add_right_comm t'] at this),
      tut_leaf es (glue R e.1 e.2) (t + 1) (r + 1) (t' + 1) (r' + 1) (fun a b => by
        have := h (a + 1) (b + 1)
        rw [show t + 1 + a = t + (a + 1) by omega, show r + 1 + b = r + (b + 1) by omega, show t' + 1 + a = t' + (a + 1) by omega, show r' + 1 + b = r' + (b + 1) by omega]; exact this)]
    rw [Int.mul_add]
    split <;> rfl

/-- Sums over all numbers below. -/
def sumS (f : Nat → Int) : Nat → Int
  | 0 => 0
  | n + 1 => sumS f n + f n
theorem sumS_congr {f g : Nat → Int} : ∀ n, (∀ k, k < n → f k = g k) → sumS f n = sumS g n
  | 0, _ => rfl
  | n + 1, h => by simp only [sumS]; rw [sumS_congr n (fun k hk => h k (by omega)), h n (by omega)]
theorem sumS_double (f : Nat → Int) : ∀ n, sumS f (2 * n) = sumS (fun s => f (2 * s)) n + sumS (fun s => f (2 * s + 1)) n
  | 0 => rfl
  | n + 1 => by
    rw [show 2 * (n + 1) = 2 * n + 1 + 1 by omega]
    simp only [sumS, sumS_double f n]; omega
/-- The rank that edges that are there make, from R on. -/
def rankL : List (Nat × Nat) → (Nat → Bool) → (Nat → Nat) → Nat
  | [], _, _ => 0
  | e :: es, T, R => if T 0 = true then (if R e.1 = R e.2 then rankL es (fun i => T (i + 1)) R else rankL es (fun i => T (i + 1)) (glue R e.1 e.2) + 1) else rankL es (fun i => T (i + 1)) R
theorem rankL_ker : ∀ (es : List (Nat × Nat)) (T : Nat → Bool) (R R' : Nat → Nat), Ker R R' → rankL es T R = rankL es T R'
  | [], _, _, _, _ => rfl
  | e :: es, T, R, R', h => by
    simp only [rankL]
    rw [rankL_ker es _ R R' h, rankL_ker es _ _ _ (h.glue e.1 e.2)]
    simp only [h e.1 e.2]
/-- The sum over all states by number is that over all choices. -/
theorem states_tut (leaf : Nat → Nat → Int) : ∀ (es : List (Nat × Nat)) (R : Nat → Nat) (t r : Nat), es.length ≤ 10 →
    sumS (fun s => leaf (t + pop s) (r + rankL es (fun i => s.testBit i) R)) (2 ^ es.length) = tut leaf es R t r
  | [], R, t, r, _ => by simp [sumS, tut, rankL, pop_zero]
  | e :: es, R, t, r, h => by
    simp only [List.length_cons] at h ⊢
    have hp := pow_le10 (show es.length ≤ 10 by omega)
    rw [Nat.pow_succ, Nat.mul_comm, sumS_double]
    have h1 : sumS (fun s => leaf (t + pop (2 * s)) (r + rankL (e :: es) (fun i => (2 * s).testBit i) R)) (2 ^ es.length) = tut leaf es R t r := by
      rw [← states_tut leaf es R t r (by omega)]
      refine sumS_congr _ fun s hs => ?_
      simp only [rankL, bit_even, pop_even s (by omega)]
      simp
    rw [h1]
    by_cases hj : R e.1 = R e.2
    · rw [tut_loop leaf hj, ← states_tut leaf es R (t + 1) r (by omega)]
      refine congrArg (tut leaf es R t r + ·) ?_
      refine sumS_congr _ fun s hs => ?_
      simp only [rankL, bit_odd, pop_odd s (by omega), if_pos hj]
      simp only [show t + (pop s + 1) = t + 1 + pop s by omega]
      simp
    · rw [tut_join leaf hj, ← states_tut leaf es (glue R e.1 e.2) (t + 1) (r + 1) (by omega)]
      refine congrArg (tut leaf es R t r + ·) ?_
      refine sumS_congr _ fun s hs => ?_
      simp only [rankL, bit_odd, pop_odd s (by omega), if_neg hj]
      simp only [Nat.testBit_zero, if_true, show (2 * s + 1) % 2 = 1 by omega, decide_true]
      exact congr (congrArg leaf (by omega)) (by omega)
theorem rankL_cnt {n : Nat} : ∀ (es : List (Nat × Nat)) (T : Nat → Bool) (R : Nat → Nat), EdgesOk n es → Good n R → cnt (repL es T R) n + rankL es T R = cnt R n
  | [], _, _, _, _ => rfl
  | e :: es, T, R, he, hg => by
    have he' : EdgesOk n es := fun x hx => he x (by simp [hx])
    have hee := he e (by simp)
    simp only [repL, rankL]
    cases hT : T 0 with
    | false => simpa using rankL_cnt es _ R he' hg
    | true =>
      have h1 := cnt_glue (a := e.1) hg.idem hg.range hee.2
      have h2 := rankL_cnt es (fun i => T (i + 1)) (glue R e.1 e.2) he' (hg.glue hee.1)
      simp only [if_true]
      by_cases hj : R e.1 = R e.2
      · rw [if_pos hj] at h1 ⊢
        rw [rankL_ker es _ _ _ (Ker.joined hj)] at h2
        omega
      · rw [if_neg hj] at h1 ⊢
        omega
end Go.Proofs.Ytgacgaidlbkkmaa
