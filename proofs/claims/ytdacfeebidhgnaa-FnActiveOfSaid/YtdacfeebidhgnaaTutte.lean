/- Plain facts on sums over all choices of edges that tell edges and ranks: an edge is there or not; edges that are made one. -/
import Derived.Test.YtdacfeebidhgnaaCounts
import Derived.Test.YtdacfeebidhgnaaCounts5
namespace Go.Proofs.Ytdacfeebidhgnaa
set_option maxRecDepth 100000

/-- The sum over all choices of edges: 'leaf' of how many are there and of the rank, from t and r on. -/
def tut (leaf : Nat → Nat → Int) : List (Nat × Nat) → (Nat → Nat) → Nat → Nat → Int
  | [], _, t, r => leaf t r
  | e :: es, R, t, r => tut leaf es R t r + if R e.1 = R e.2 then tut leaf es R (t + 1) r else tut leaf es (glue R e.1 e.2) (t + 1) (r + 1)

theorem tut_ker (leaf : Nat → Nat → Int) : ∀ (es : List (Nat × Nat)) (R R' : Nat → Nat) (t r : Nat), Ker R R' → tut leaf es R t r = tut leaf es R' t r
  | [], _, _, _, _, _ => rfl
  | e :: es, R, R', t, r, h => by
    simp only [tut]
    rw [tut_ker leaf es R R' t r h, tut_ker leaf es R R' (t + 1) r h, tut_ker leaf es _ _ (t + 1) (r + 1) (h.glue e.1 e.2)]
    simp only [h e.1 e.2]
theorem tut_loop (leaf : Nat → Nat → Int) {e : Nat × Nat} {R : Nat → Nat} (h : R e.1 = R e.2) (es : List (Nat × Nat)) (t r : Nat) :
    tut leaf (e :: es) R t r = tut leaf es R t r + tut leaf es R (t + 1) r := by
  simp only [tut, if_pos h]
theorem tut_join (leaf : Nat → Nat → Int) {e : Nat × Nat} {R : Nat → Nat} (h : R e.1 ≠ R e.2) (es : List (Nat × Nat)) (t r : Nat) :
    tut leaf (e :: es) R t r = tut leaf es R t r + tut leaf es (glue R e.1 e.2) (t + 1) (r + 1) := by
  simp only [tut, if_neg h]
theorem tut_swap (leaf : Nat → Nat → Int) (e f : Nat × Nat) (es : List (Nat × Nat)) (R : Nat → Nat) (t r : Nat) : tut leaf (e :: f :: es) R t r = tut leaf (f :: e :: es) R t r := by
  by_cases h1 : R e.1 = R e.2 <;> by_cases h2 : R f.1 = R f.2
  · rw [tut_loop leaf h1, tut_loop leaf h2, tut_loop leaf h2, tut_loop leaf h2, tut_loop leaf h1, tut_loop leaf h1]
    all_goals omega
  · have h3 : glue R f.1 f.2 e.1 = glue R f.1 f.2 e.2 := glue_kept h1 _ _
    rw [tut_loop leaf h1, tut_join leaf h2, tut_join leaf h2, tut_join leaf h2, tut_loop leaf h1, tut_loop leaf h3]; omega
  · have h3 : glue R e.1 e.2 f.1 = glue R e.1 e.2 f.2 := glue_kept h2 _ _
    rw [tut_loop leaf h2, tut_join leaf h1, tut_join leaf h1, tut_join leaf h1, tut_loop leaf h2, tut_loop leaf h3]; omega
  · rw [tut_join leaf h1, tut_join leaf h2, tut_join leaf h2, tut_join leaf h1]
    by_cases h3 : glue R e.1 e.2 f.1 = glue R e.1 e.2 f.2
    · have h4 : glue R f.1 f.2 e.1 = glue R f.1 f.2 e.2 := by
        rw [glue_eq] at h3 ⊢; omega
      have h5 : Ker (glue R e.1 e.2) (glue R f.1 f.2) := by
        intro x y
        rw [glue_eq, glue_eq]
        rw [glue_eq] at h3; omega
      rw [tut_loop leaf h3, tut_loop leaf h4, tut_ker leaf es _ _ (t + 1 + 1) (r + 1) h5]; omega
    · have h4 : glue R f.1 f.2 e.1 ≠ glue R f.1 f.2 e.2 := by
        intro h4; apply h3
        rw [glue_eq] at h4 ⊢; omega
      rw [tut_join leaf h3, tut_join leaf h4, tut_ker leaf es _ _ (t + 1 + 1) (r + 1 + 1) (Ker.comm R e.1 e.2 f.1 f.2)]; omega
theorem tut_congr (leaf : Nat → Nat → Int) {l l' : List (Nat × Nat)} (h : ∀ R t r, tut leaf l R t r = tut leaf l' R t r) (e : Nat × Nat) (R : Nat → Nat) (t r : Nat) : tut leaf (e :: l) R t r = tut leaf (e :: l') R t r := by
  simp only [tut]; rw [h, h, h]
theorem tut_move (leaf : Nat → Nat → Int) (e : Nat × Nat) (l2 : List (Nat × Nat)) : ∀ (l1 : List (Nat × Nat)) (R : Nat → Nat) (t r : Nat),
    tut leaf (l1 ++ e :: l2) R t r = tut leaf (e :: (l1 ++ l2)) R t r
  | [], _, _, _ => rfl
  | f :: l1, R, t, r => by
    rw [List.cons_append, tut_congr leaf (tut_move leaf e l2 l1), tut_swap, List.cons_append]
theorem tut_rel (leaf : Nat → Nat → Int) {n : Nat} {f : Nat → Nat} : ∀ (es : List (Nat × Nat)) (R R' : Nat → Nat) (t r : Nat), EdgesOk n es → RelK n f R R' → tut leaf es R t r = tut leaf (es.map (mmN f)) R' t r
  | [], _, _, _, _, _, _ => rfl
  | e :: es, R, R', t, r, he, h => by
    have he' : EdgesOk n es := fun x hx => he x (by simp [hx])
    have hee := he e (by simp)
    have hj : R e.1 = R e.2 ↔ R' (mmN f e).1 = R' (mmN f e).2 := by
      rw [h e.1 e.2 hee.1.1 hee.1.2 hee.2.1 hee.2.2]
      simp only [mmN]
      by_cases hlt : f e.1 ≤ f e.2
      · rw [Nat.min_eq_left hlt, Nat.max_eq_right hlt]
      · rw [Nat.min_eq_right (by omega), Nat.max_eq_left (by omega)]; exact eq_comm
    simp only [List.map_cons, tut]
    rw [tut_rel leaf es R R' t r he' h, tut_rel leaf es R R' (t + 1) r he' h, tut_rel leaf es _ _ (t + 1) (r + 1) he' (h.glueM hee.1 hee.2)]
    simp only [hj]
theorem tut_made (leaf : Nat → Nat → Int) {n : Nat} {g : Nat × Nat} (hg : 1 ≤ g.1 ∧ g.1 < g.2 ∧ g.2 ≤ n) (es : List (Nat × Nat)) (he : EdgesOk n es) (t r : Nat) :
    tut leaf es (glue (fun x => x) g.1 g.2) t r = tut leaf (es.map (mmN (renN g))) (fun x => x) t r := tut_rel leaf es _ _ t r he (renN_start hg)
theorem tut_leaf {leaf leaf' : Nat → Nat → Int} {c : Int} : ∀ (es : List (Nat × Nat)) (R : Nat → Nat) (t r t' r' : Nat), (∀ a b, leaf (t + a) (r + b) = c * leaf' (t' + a) (r' + b)) → tut leaf es R t r = c * tut leaf' es R t' r'
  | [], _, t, r, t', r', h => h 0 0
  | e :: es, R, t, r, t', r', h => by
    simp only [tut]
    rw [tut_leaf es R t r t' r' h, tut_leaf es R (t + 1) r (t' + 1) r' (fun a b => by have := h (a + 1) b; rwa [← Nat.add_assoc, ← Nat.add_assoc, Nat.add_right_comm, Nat.add_right_comm t'] at this),
      tut_leaf es (glue R e.1 e.2) (t + 1) (r + 1) (t' + 1) (r' + 1) (fun a b => by
        have := h (a + 1) (b + 1)
        rw [show t + 1 + a = t + (a + 1) by omega, show r + 1 + b = r + (b + 1) by omega, show t' + 1 + a = t' + (a + 1) by omega, show r' + 1 + b = r' + (b + 1) by omega]; exact this)]
    rw [Int.mul_add]
    split <;> rfl

/-- Sums over all numbers below. -/
def sumS (f : Nat → Int) : Nat → Int
  | 0 => 0
  | n + 1 => sumS f n + f n
theorem sumS_congr {f g : Nat → Int} : ∀ n, (∀ k, k < n → f k = g k) → sumS f n = sumS g n
  | 0, _ => rfl
  | n + 1, h => by simp only [sumS]; rw [sumS_congr n (fun k hk => h k (by omega)), h n (by omega)]
theorem sumS_double (f : Nat → Int) : ∀ n, sumS f (2 * n) = sumS (fun s => f (2 * s)) n + sumS (fun s => f (2 * s + 1)) n
  | 0 => rfl
  | n + 1 => by
    rw [show 2 * (n + 1) = 2 * n + 1 + 1 by omega]
    simp only [sumS, sumS_double f n]; omega
/-- The rank that edges that are there make, from R on. -/
def rankL : List (Nat × Nat) → (Nat → Bool) → (Nat → Nat) → Nat
  | [], _, _ => 0
  | e :: es, T, R => if T 0 = true then (if R e.1 = R e.2 then rankL es (fun i => T (i + 1)) R else rankL es (fun i => T (i + 1)) (glue R e.1 e.2) + 1) else rankL es (fun i => T (i + 1)) R
theorem rankL_ker : ∀ (es : List (Nat × Nat)) (T : Nat → Bool) (R R' : Nat → Nat), Ker R R' → rankL es T R = rankL es T R'
  | [], _, _, _, _ => rfl
  | e :: es, T, R, R', h => by
    simp only [rankL]
    rw [rankL_ker es _ R R' h, rankL_ker es _ _ _ (h.glue e.1 e.2)]
    simp only [h e.1 e.2]
/-- The sum over all states by number is that over all choices. -/
theorem states_tut (leaf : Nat → Nat → Int) : ∀ (es : List (Nat × Nat)) (R : Nat → Nat) (t r : Nat), es.length ≤ 10 →
    sumS (fun s => leaf (t + pop s) (r + rankL es (fun i => s.testBit i) R)) (2 ^ es.length) = tut leaf es R t r
  | [], R, t, r, _ => by simp [sumS, tut, rankL, pop_zero]
  | e :: es, R, t, r, h => by
    simp only [List.length_cons] at h ⊢
    have hp := pow_le10 (show es.length ≤ 10 by omega)
    rw [Nat.pow_succ, Nat.mul_comm, sumS_double]
    have h1 : sumS (fun s => leaf (t + pop (2 * s)) (r + rankL (e :: es) (fun i => (2 * s).testBit i) R)) (2 ^ es.length) = tut leaf es R t r := by
      rw [← states_tut leaf es R t r (by omega)]
      refine sumS_congr _ fun s hs => ?_
      simp only [rankL, bit_even, pop_even s (by omega)]
      simp
    rw [h1]
    by_cases hj : R e.1 = R e.2
    · rw [tut_loop leaf hj, ← states_tut leaf es R (t + 1) r (by omega)]
      refine congrArg (tut leaf es R t r + ·) ?_
      refine sumS_congr _ fun s hs => ?_
      simp only [rankL, bit_odd, pop_odd s (by omega), if_pos hj]
      simp only [show t + (pop s + 1) = t + 1 + pop s by omega]
      simp
    · rw [tut_join leaf hj, ← states_tut leaf es (glue R e.1 e.2) (t + 1) (r + 1) (by omega)]
      refine congrArg (tut leaf es R t r + ·) ?_
      refine sumS_congr _ fun s hs => ?_
      simp only [rankL, bit_odd, pop_odd s (by omega), if_neg hj]
      simp only [Nat.testBit_zero, if_true, show (2 * s + 1) % 2 = 1 by omega, decide_true]
      exact congr (congrArg leaf (by omega)) (by omega)
theorem rankL_cnt {n : Nat} : ∀ (es : List (Nat × Nat)) (T : Nat → Bool) (R : Nat → Nat), EdgesOk n es → Good n R → cnt (repL es T R) n + rankL es T R = cnt R n
  | [], _, _, _, _ => rfl
  | e :: es, T, R, he, hg => by
    have he' : EdgesOk n es := fun x hx => he x (by simp [hx])
    have hee := he e (by simp)
    simp only [repL, rankL]
    cases hT : T 0 with
    | false => simpa using rankL_cnt es _ R he' hg
    | true =>
      have h1 := cnt_glue (a := e.1) hg.idem hg.range hee.2
      have h2 := rankL_cnt es (fun i => T (i + 1)) (glue R e.1 e.2) he' (hg.glue hee.1)
      simp only [if_true]
      by_cases hj : R e.1 = R e.2
      · rw [if_pos hj] at h1 ⊢
        rw [rankL_ker es _ _ _ (Ker.joined hj)] at h2
        omega
      · rw [if_neg hj] at h1 ⊢
        omega
end Go.Proofs.Ytdacfeebidhgnaa

/- Plain facts on paintings: they are counted by numbers in a base, and told by the sum over all choices of edges. -/
namespace Go.Proofs.Ytdacfeebidhgnaa
set_option maxRecDepth 100000

def sgn (t : Nat) (x : Int) : Int := if t % 2 = 0 then x else -x
theorem sgn_succ (t : Nat) (x : Int) : sgn (t + 1) x = - sgn t x := by
  unfold sgn
  by_cases h : t % 2 = 0
  · rw [if_pos h, if_neg (by omega)]
  · rw [if_neg h, if_pos (by omega)]; omega
theorem sgn_sgn (t : Nat) (x : Int) : sgn t (sgn t x) = x := by
  unfold sgn; split <;> omega
theorem sgn_add (t : Nat) (x y : Int) : sgn t (x + y) = sgn t x + sgn t y := by
  unfold sgn; split <;> omega
theorem sgn_zero (x : Int) : sgn 0 x = x := by simp [sgn]

/-- The digit for node x of a number in the base c. -/
def dig (c w x : Nat) : Nat := w / c ^ (x - 1) % c
def updF (f : Nat → Nat) (k d : Nat) (x : Nat) : Nat := if x = k then d else f x
/-- How many functions meet q that are like f but for 1..k, and below c there. -/
def cols (c : Nat) (q : (Nat → Nat) → Bool) : Nat → (Nat → Nat) → Nat
  | 0, f => if q f = true then 1 else 0
  | k + 1, f => sumN (fun d => cols c q k (updF f (k + 1) d)) c
theorem countP_mul (g : Nat → Bool) (a : Nat) : ∀ c, (List.range (a * c)).countP g = sumN (fun d => (List.range a).countP fun w => g (d * a + w)) c
  | 0 => by simp [sumN]
  | c + 1 => by
    rw [Nat.mul_succ, List.range_add, List.countP_append, countP_mul g a c, List.countP_map]
    simp only [sumN]
    congr 1
    refine countP_same fun w _ => ?_
    simp only [Function.comp, Nat.mul_comm]
def ext (c w k : Nat) (f : Nat → Nat) (x : Nat) : Nat := if 1 ≤ x ∧ x ≤ k then dig c w x else f x
theorem dig_low {c w d k x : Nat} (hx : 1 ≤ x ∧ x ≤ k) : dig c (d * c ^ k + w) x = dig c w x := by
  unfold dig
  obtain ⟨m, rfl⟩ : ∃ m, k = x - 1 + 1 + m := ⟨k - x, by omega⟩
  by_cases hc : c = 0
  · subst hc; simp
    by_cases h1 : x = 1
    · subst h1; simp
      rw [show 1 + m = m + 1 by omega, Nat.pow_succ]; simp
    · rw [show x - 1 + 1 + m = (x - 1 + m) + 1 by omega, Nat.pow_succ]; simp
  · rw [Nat.pow_add, Nat.pow_succ, show d * (c ^ (x - 1) * c * c ^ m) + w = w + c ^ (x - 1) * (c * (d * c ^ m)) by
      rw [Nat.add_comm, Nat.mul_comm d, Nat.mul_assoc, Nat.mul_assoc, Nat.mul_comm (c ^ m) d]]
    rw [Nat.add_mul_div_left _ _ (Nat.pow_pos (by omega)), Nat.add_mul_mod_self_left]
theorem dig_top {c w d k : Nat} (hd : d < c) (hw : w < c ^ k) : dig c (d * c ^ k + w) (k + 1) = d := by
  unfold dig
  rw [Nat.add_sub_cancel, Nat.add_comm, Nat.add_mul_div_right _ _ (by omega), Nat.div_eq_of_lt hw, Nat.zero_add, Nat.mod_eq_of_lt hd]
theorem cols_count (c : Nat) (q : (Nat → Nat) → Bool) : ∀ (k : Nat) (f : Nat → Nat), (List.range (c ^ k)).countP (fun w => q (ext c w k f)) = cols c q k f
  | 0, f => by
    have : ext c 0 0 f = f := by funext x; simp only [ext]; rw [if_neg (by omega)]
    rw [Nat.pow_zero, List.range_one, List.countP_cons, List.countP_nil, this, cols, Nat.zero_add]
  | k + 1, f => by
    rw [Nat.pow_succ, countP_mul]
    simp only [cols]
    refine sumN_congr _ fun d hd => ?_
    rw [← cols_count c q k (updF f (k + 1) d)]
    refine countP_same fun w hw => ?_
    congr 1
    funext x
    unfold ext updF
    by_cases h1 : 1 ≤ x ∧ x ≤ k
    · rw [if_pos (by omega), if_pos h1, dig_low h1]
    · by_cases h2 : x = k + 1
      · subst h2
        rw [if_pos (by omega), if_neg h1, if_pos rfl, dig_top hd hw]
      · rw [if_neg (by omega), if_neg h1, if_neg h2]
theorem cols_add {c : Nat} {q q1 q2 : (Nat → Nat) → Bool} (h : ∀ g, (if q g = true then 1 else 0) = (if q1 g = true then 1 else 0) + if q2 g = true then 1 else 0) : ∀ k f, cols c q k f = cols c q1 k f + cols c q2 k f
  | 0, f => h f
  | k + 1, f => by
    simp only [cols]
    rw [← sumN_add]
    exact sumN_congr _ fun d _ => cols_add h k _
theorem sumN_first_le {f g : Nat → Nat} : ∀ n, (∀ k, k < n → f k ≤ g k) → sumN f n ≤ sumN g n
  | 0, _ => Nat.le_refl _
  | n + 1, h => Nat.add_le_add (sumN_first_le n fun k hk => h k (by omega)) (h n (by omega))
theorem cols_more (c : Nat) (q : (Nat → Nat) → Bool) : ∀ k f, cols c q k f ≤ cols (c + 1) q k f
  | 0, _ => Nat.le_refl _
  | k + 1, f => by
    simp only [cols]
    refine Nat.le_trans (sumN_first_le c fun d _ => cols_more c q k _) ?_
    simp only [sumN]; omega
theorem sumN_nil {f : Nat → Nat} : ∀ n, (∀ k, k < n → f k = 0) → sumN f n = 0
  | 0, _ => rfl
  | n + 1, h => by simp only [sumN, sumN_nil n (fun k hk => h k (by omega)), h n (by omega)]
theorem sumN_const (a : Nat) : ∀ n, sumN (fun _ => a) n = a * n
  | 0 => rfl
  | n + 1 => by simp only [sumN, sumN_const a n, Nat.mul_succ]
theorem sumN_one {f : Nat → Nat} {i : Nat} (a : Nat) : ∀ n, i < n → f i = a → (∀ k, k < n → k ≠ i → f k = 0) → sumN f n = a
  | 0, h, _, _ => by omega
  | n + 1, h, h1, h2 => by
    simp only [sumN]
    by_cases e : i = n
    · subst e; rw [sumN_nil i fun k hk => h2 k (by omega) (by omega), h1, Nat.zero_add]
    · rw [sumN_one a n (by omega) h1 (fun k hk => h2 k (by omega)), h2 n (by omega) (by omega)]; rfl
theorem cols_none {c : Nat} {q : (Nat → Nat) → Bool} : ∀ k f, (∀ g, (∀ x, k < x → g x = f x) → q g = false) → cols c q k f = 0
  | 0, f, h => by rw [cols, h f fun _ _ => rfl]; rfl
  | k + 1, f, h => by
    refine sumN_nil _ fun d _ => cols_none k _ fun g hg => h g fun x hx => ?_
    rw [hg x (by omega)]; unfold updF; rw [if_neg (by omega)]

/-- What R joins has one colour. -/
def fitB (n : Nat) (R g : Nat → Nat) : Bool := (List.range n).all fun i => (List.range n).all fun j => !decide (R (i + 1) = R (j + 1)) || decide (g (i + 1) = g (j + 1))
theorem fitB_iff {n : Nat} {R g : Nat → Nat} : fitB n R g = true ↔ ∀ x y, 1 ≤ x → x ≤ n → 1 ≤ y → y ≤ n → R x = R y → g x = g y := by
  simp only [fitB, List.all_eq_true, List.mem_range, Bool.or_eq_true, Bool.not_eq_true', decide_eq_true_eq, decide_eq_false_iff_not]
  constructor
  · intro h x y h1 h2 h3 h4 e
    have := h (x - 1) (by omega) (y - 1) (by omega)
    rw [show x - 1 + 1 = x by omega, show y - 1 + 1 = y by omega] at this
    rcases this with h5 | h5
    · exact absurd e h5
    · exact h5
  · intro h i hi j hj
    by_cases e : R (i + 1) = R (j + 1)
    · exact .inr (h _ _ (by omega) (by omega) (by omega) (by omega) e)
    · exact .inl e
/-- The last node of 1..k that R joins with x; or x. -/
def lastR (R : Nat → Nat) : Nat → Nat → Nat
  | 0, x => x
  | k + 1, x => if R (k + 1) = R x then k + 1 else lastR R k x
theorem lastR_joins (R : Nat → Nat) (x : Nat) : ∀ k, R (lastR R k x) = R x
  | 0 => rfl
  | k + 1 => by
    simp only [lastR]
    split
    · assumption
    · exact lastR_joins R x k
theorem lastR_le (R : Nat → Nat) (x : Nat) : ∀ k, x ≤ k → x ≤ lastR R k x ∧ lastR R k x ≤ k
  | 0, h => by simp [lastR]; omega
  | k + 1, h => by
    simp only [lastR]
    split
    · omega
    · rename_i h1
      have : x ≠ k + 1 := fun e => h1 (by rw [e])
      have := lastR_le R x k (by omega)
      omega
theorem lastR_ker (R : Nat → Nat) {x y : Nat} (h : R x = R y) : ∀ k, x ≤ k → y ≤ k → lastR R k x = lastR R k y
  | 0, h1, h2 => by simp [lastR]; omega
  | k + 1, h1, h2 => by
    simp only [lastR, h]
    split
    · rfl
    · rename_i h3
      have : x ≠ k + 1 := fun e => h3 (by rw [← h, e])
      have : y ≠ k + 1 := fun e => h3 (by rw [e])
      exact lastR_ker R h k (by omega) (by omega)
theorem cols_fit (c n : Nat) (R : Nat → Nat) : ∀ k, k ≤ n → ∀ f, (∀ x y, k < x → x ≤ n → k < y → y ≤ n → R x = R y → f x = f y) → (∀ x, k < x → x ≤ n → f x < c) →
    cols c (fitB n R) k f = c ^ cnt (lastR R n) k
  | 0, _, f, h, _ => by
    rw [cols, fitB_iff.2 fun x y h1 h2 h3 h4 => h x y (by omega) h2 (by omega) h4]; rfl
  | k + 1, hk, f, h, hf => by
    simp only [cols, cnt]
    have hl := lastR_le R (k + 1) n hk
    by_cases e : lastR R n (k + 1) = k + 1
    · rw [if_pos e, Nat.pow_succ]
      rw [sumN_congr (g := fun _ => c ^ cnt (lastR R n) k) c ?_, sumN_const]
      intro d hd
      have hne : ∀ x, k + 1 < x → x ≤ n → R x ≠ R (k + 1) := fun x h1 h2 h3 => by
        have h4 := lastR_ker R h3 n h2 hk
        have h5 := lastR_le R x n h2
        omega
      refine cols_fit c n R k (by omega) _ ?_ ?_
      · intro x y h1 h2 h3 h4 h5
        unfold updF
        by_cases ex : x = k + 1
        · by_cases ey : y = k + 1
          · rw [if_pos ex, if_pos ey]
          · exact absurd (ex ▸ h5.symm) (hne y (by omega) h4)
        · by_cases ey : y = k + 1
          · exact absurd (ey ▸ h5) (hne x (by omega) h2)
          · rw [if_neg ex, if_neg ey]; exact h x y (by omega) h2 (by omega) h4 h5
      · intro x h1 h2
        unfold updF; split
        · exact hd
        · exact hf x (by omega) h2
    · rw [if_neg e, Nat.add_zero]
      have hj := lastR_joins R (k + 1) n
      generalize hz : lastR R n (k + 1) = z at *
      refine sumN_one (i := f z) _ c (hf z (by omega) (by omega)) ?_ ?_
      · refine cols_fit c n R k (by omega) _ ?_ ?_
        · intro x y h1 h2 h3 h4 h5
          unfold updF
          by_cases ex : x = k + 1
          · by_cases ey : y = k + 1
            · rw [if_pos ex, if_pos ey]
            · rw [if_pos ex, if_neg ey]; exact h z y (by omega) (by omega) (by omega) h4 (by rw [hj, ← ex, h5])
          · by_cases ey : y = k + 1
            · rw [if_neg ex, if_pos ey]; exact h x z (by omega) h2 (by omega) (by omega) (by rw [hj, ← ey, h5])
            · rw [if_neg ex, if_neg ey]; exact h x y (by omega) h2 (by omega) h4 h5
        · intro x h1 h2
          unfold updF; split
          · exact hf z (by omega) (by omega)
          · exact hf x (by omega) h2
      · intro d hd hne
        refine cols_none k _ fun g hg => ?_
        rw [← Bool.not_eq_true, fitB_iff]
        intro hfit
        have h1 := hfit z (k + 1) (by omega) (by omega) (by omega) hk hj
        rw [hg z (by omega), hg (k + 1) (by omega)] at h1
        unfold updF at h1
        rw [if_neg (by omega), if_pos rfl] at h1
        exact hne h1.symm
theorem cols_good {c n : Nat} {R : Nat → Nat} (hg : Good n R) (f : Nat → Nat) : cols c (fitB n R) n f = c ^ cnt R n := by
  rw [cols_fit c n R n (Nat.le_refl _) f (fun x y h1 h2 => by omega) (fun x h1 h2 => by omega)]
  congr 1
  refine Nat.le_antisymm ?_ ?_
  · exact cnt_anti hg.idem hg.range fun x y _ h2 _ h4 e => lastR_ker R e n h2 h4
  · rw [cnt_congr (R := lastR R n) (R' := fun x => if x ≤ n then lastR R n x else x) n (fun x _ h2 => by rw [if_pos h2])]
    refine cnt_anti ?_ ?_ ?_
    · intro x
      by_cases h : x ≤ n
      · have h1 := lastR_le R x n h
        rw [if_pos h, if_pos h1.2]
        exact lastR_ker R (lastR_joins R x n) n h1.2 h
      · rw [if_neg h, if_neg h]
    · intro x h1 h2
      have := lastR_le R x n h2
      rw [if_pos h2]; omega
    · intro x y _ h2 _ h4 e
      rw [if_pos h2, if_pos h4] at e
      have h5 := lastR_joins R x n
      rw [e, lastR_joins R y n] at h5
      exact h5.symm

def propB (es : List (Nat × Nat)) (g : Nat → Nat) : Bool := es.all fun e => !decide (g e.1 = g e.2)
theorem fit_glue {n : Nat} {R g : Nat → Nat} {a b : Nat} (ha : 1 ≤ a ∧ a ≤ n) (hb : 1 ≤ b ∧ b ≤ n) : fitB n (glue R a b) g = (fitB n R g && decide (g a = g b)) := by
  rw [Bool.eq_iff_iff, Bool.and_eq_true, fitB_iff, fitB_iff, decide_eq_true_eq]
  constructor
  · intro h
    refine ⟨fun x y h1 h2 h3 h4 e => h x y h1 h2 h3 h4 (glue_kept e a b), h a b ha.1 ha.2 hb.1 hb.2 (by rw [glue_self, glue_other])⟩
  · rintro ⟨h, hab⟩ x y h1 h2 h3 h4 e
    have to : ∀ z, 1 ≤ z → z ≤ n → (R z = R a ∨ R z = R b) → g z = g a := fun z hz hz' o => by
      rcases o with o | o
      · exact h z a hz hz' ha.1 ha.2 o
      · exact (h z b hz hz' hb.1 hb.2 o).trans hab.symm
    rcases (glue_eq R a b x y).1 e with h5 | ⟨h5, h6⟩
    · exact h x y h1 h2 h3 h4 h5
    · exact (to x h1 h2 h5).trans (to y h3 h4 h6).symm
/-- Paintings that fit R, with both ends of each edge different. -/
def paintR (c n : Nat) (R : Nat → Nat) (es : List (Nat × Nat)) (f : Nat → Nat) : Nat := cols c (fun g => fitB n R g && propB es g) n f
theorem three_way (u p v : Bool) : (if (u && v) = true then 1 else 0) = (if (u && (!p && v)) = true then 1 else 0) + if (u && p && v) = true then 1 else 0 := by
  cases u <;> cases p <;> cases v <;> rfl
theorem paint_step (c n : Nat) (R : Nat → Nat) (e : Nat × Nat) (es : List (Nat × Nat)) (f : Nat → Nat) (ha : 1 ≤ e.1 ∧ e.1 ≤ n) (hb : 1 ≤ e.2 ∧ e.2 ≤ n) :
    paintR c n R es f = paintR c n R (e :: es) f + paintR c n (glue R e.1 e.2) es f := by
  unfold paintR
  refine cols_add (fun g => ?_) n f
  rw [fit_glue ha hb]
  simp only [propB, List.all_cons]
  exact three_way _ _ _
theorem fit_ker {n : Nat} {R R' : Nat → Nat} (h : Ker R R') (g : Nat → Nat) : fitB n R g = fitB n R' g := by
  rw [Bool.eq_iff_iff, fitB_iff, fitB_iff]
  constructor
  · intro hh x y h1 h2 h3 h4 e; exact hh x y h1 h2 h3 h4 ((h x y).2 e)
  · intro hh x y h1 h2 h3 h4 e; exact hh x y h1 h2 h3 h4 ((h x y).1 e)
theorem paint_ker (c n : Nat) {R R' : Nat → Nat} (h : Ker R R') (es : List (Nat × Nat)) (f : Nat → Nat) : paintR c n R es f = paintR c n R' es f := by
  unfold paintR
  congr 1
  funext g
  rw [fit_ker h]
/-- A number taken as often times itself as there are pieces, by turns added and taken away. -/
def paintLeaf (x : Int) (n : Nat) (t r : Nat) : Int := sgn t (x ^ (n - r))
theorem paint_tut (c n : Nat) (f : Nat → Nat) : ∀ (es : List (Nat × Nat)) (R : Nat → Nat) (t r : Nat), EdgesOk n es → Good n R → cnt R n + r = n →
    (paintR c n R es f : Int) = sgn t (tut (paintLeaf c n) es R t r)
  | [], R, t, r, _, hg, hr => by
    have : paintR c n R [] f = c ^ cnt R n := by
      rw [← cols_good hg f]; unfold paintR propB
      simp
    rw [this, tut, paintLeaf, sgn_sgn, show n - r = cnt R n by omega, Int.natCast_pow]
  | e :: es, R, t, r, he, hg, hr => by
    have he' : EdgesOk n es := fun x hx => he x (by simp [hx])
    have hee := he e (by simp)
    have h0 := paint_step c n R e es f hee.1 hee.2
    have h1 := paint_tut c n f es R t r he' hg hr
    have h2 := cnt_glue (a := e.1) hg.idem hg.range hee.2
    by_cases hj : R e.1 = R e.2
    · have h3 := paint_tut c n f es R (t + 1) r he' hg hr
      rw [paint_ker c n (Ker.joined hj)] at h0
      rw [tut_loop _ hj, sgn_add, ← h1]
      rw [sgn_succ] at h3
      omega
    · rw [if_neg hj] at h2
      have h3 := paint_tut c n f es (glue R e.1 e.2) (t + 1) (r + 1) he' (hg.glue hee.1) (by omega)
      rw [tut_join _ hj, sgn_add, ← h1]
      rw [sgn_succ] at h3
      omega
/-- The paintings by numbers. -/
def paintN (c n : Nat) (es : List (Nat × Nat)) : Nat := (List.range (c ^ n)).countP fun w => es.all fun e => !decide (dig c w e.1 = dig c w e.2)
theorem paintN_cols {c n : Nat} {es : List (Nat × Nat)} (he : EdgesOk n es) : paintN c n es = paintR c n (fun x => x) es (fun _ => 0) := by
  unfold paintR
  rw [← cols_count]
  unfold paintN
  refine countP_same fun w _ => ?_
  have h1 : fitB n (fun x => x) (ext c w n fun _ => 0) = true := fitB_iff.2 fun x y _ _ _ _ e => by rw [show x = y from e]
  rw [h1, Bool.true_and]
  unfold propB
  rw [Bool.eq_iff_iff, List.all_eq_true, List.all_eq_true]
  constructor
  · intro h e hx
    have h2 := he e hx
    unfold ext
    rw [if_pos ⟨h2.1.1, h2.1.2⟩, if_pos ⟨h2.2.1, h2.2.2⟩]; exact h e hx
  · intro h e hx
    have h2 := he e hx
    have := h e hx
    unfold ext at this
    rwa [if_pos ⟨h2.1.1, h2.1.2⟩, if_pos ⟨h2.2.1, h2.2.2⟩] at this
theorem paintN_tut {c n : Nat} {es : List (Nat × Nat)} (he : EdgesOk n es) : (paintN c n es : Int) = tut (paintLeaf c n) es (fun x => x) 0 0 := by
  rw [paintN_cols he, paint_tut c n _ es (fun x => x) 0 0 he ⟨fun _ => rfl, fun _ h1 h2 => ⟨h1, h2⟩⟩ (by rw [cnt_id fun _ => rfl]; omega), sgn_zero]
theorem paintN_more {c n : Nat} {es : List (Nat × Nat)} (he : EdgesOk n es) : paintN c n es ≤ paintN (c + 1) n es := by
  rw [paintN_cols he, paintN_cols he]; exact cols_more c _ n _
/-- An edge that alone has its ends: without it, less with its ends made one. -/
theorem paint_split (x : Int) {n : Nat} {g : Nat × Nat} (hg : 1 ≤ g.1 ∧ g.1 < g.2 ∧ g.2 ≤ n) {l1 l2 : List (Nat × Nat)} (he : EdgesOk n (l1 ++ l2)) :
    tut (paintLeaf x n) (l1 ++ g :: l2) (fun x => x) 0 0 = tut (paintLeaf x n) (l1 ++ l2) (fun x => x) 0 0 - tut (paintLeaf x (n - 1)) ((l1 ++ l2).map (mmN (renN g))) (fun x => x) 0 0 := by
  rw [tut_move, tut_join _ (show (fun x : Nat => x) g.1 ≠ (fun x : Nat => x) g.2 by simp only; omega), tut_made _ hg _ he]
  rw [tut_leaf (leaf := paintLeaf x n) (leaf' := paintLeaf x (n - 1)) (c := -1) _ _ (0 + 1) (0 + 1) 0 0]
  · omega
  · intro a b
    unfold paintLeaf
    rw [show 0 + 1 + a = 0 + a + 1 by omega, sgn_succ, show n - (0 + 1 + b) = n - 1 - (0 + b) by omega]
    omega
end Go.Proofs.Ytdacfeebidhgnaa

/- Plain facts on arrows: one comes back exactly if no numbers rise along all arrows; how many arrows lead never back is told by the sum over all choices of edges. -/
namespace Go.Proofs.Ytdacfeebidhgnaa
set_option maxRecDepth 100000

/-- h rises along each arrow: from the first end to the second, or back where T says so. -/
def risesL : List (Nat × Nat) → (Nat → Bool) → (Nat → Nat) → Prop
  | [], _, _ => True
  | e :: es, T, h => (if T 0 = true then h e.2 < h e.1 else h e.1 < h e.2) ∧ risesL es (fun i => T (i + 1)) h
/-- Some numbers, the same for what R joins, rise along each arrow. -/
def Rkd (R : Nat → Nat) (es : List (Nat × Nat)) (T : Nat → Bool) : Prop := ∃ h : Nat → Nat, Sub R h ∧ risesL es T h
theorem risesL_mono {h h' : Nat → Nat} (hh : ∀ x y, h x < h y → h' x < h' y) : ∀ (es : List (Nat × Nat)) (T : Nat → Bool), risesL es T h → risesL es T h'
  | [], _, _ => trivial
  | e :: es, T, ⟨h1, h2⟩ => by
    refine ⟨?_, risesL_mono hh es _ h2⟩
    split
    · rename_i ht; rw [if_pos ht] at h1; exact hh _ _ h1
    · rename_i ht; rw [if_neg ht] at h1; exact hh _ _ h1
theorem risesL_two {h1 h2 h : Nat → Nat} (hh : ∀ x y, h1 x < h1 y → h2 x < h2 y → h x < h y) : ∀ (es : List (Nat × Nat)) (T : Nat → Bool), risesL es T h1 → risesL es T h2 → risesL es T h
  | [], _, _, _ => trivial
  | e :: es, T, ⟨a1, a2⟩, ⟨b1, b2⟩ => by
    refine ⟨?_, risesL_two hh es _ a2 b2⟩
    split
    · rename_i ht; rw [if_pos ht] at a1 b1; exact hh _ _ a1 b1
    · rename_i ht; rw [if_neg ht] at a1 b1; exact hh _ _ a1 b1
/-- All but the nodes that R joins with b, and these one higher. -/
theorem rise_b {R h : Nat → Nat} {a b : Nat} (hs : Sub R h) (hab : R a ≠ R b) (he : h a = h b) {es : List (Nat × Nat)} {T : Nat → Bool} (hr : risesL es T h) :
    ∃ h', Sub R h' ∧ h' a < h' b ∧ risesL es T h' := by
  refine ⟨fun x => 2 * h x + if R x = R b then 1 else 0, fun x y hxy => ?_, ?_, risesL_mono (fun x y hxy => ?_) es T hr⟩
  · simp only [hs x y hxy, hxy]
  · simp only [if_neg hab, if_true, he]; omega
  · show 2 * h x + (if R x = R b then 1 else 0) < 2 * h y + (if R y = R b then 1 else 0)
    split <;> split <;> omega
theorem rkd_glue {R : Nat → Nat} {a b : Nat} {es : List (Nat × Nat)} {T : Nat → Bool} (hab : R a ≠ R b) :
    ((∃ h, Sub R h ∧ h a < h b ∧ risesL es T h) ∧ ∃ h, Sub R h ∧ h b < h a ∧ risesL es T h) ↔ Rkd (glue R a b) es T := by
  constructor
  · rintro ⟨⟨h1, s1, l1, r1⟩, h2, s2, l2, r2⟩
    obtain ⟨p, hp⟩ : ∃ p, h1 b = h1 a + p := ⟨h1 b - h1 a, by omega⟩
    obtain ⟨q, hq⟩ : ∃ q, h2 a = h2 b + q := ⟨h2 a - h2 b, by omega⟩
    have hp0 : 0 < p := by omega
    have hq0 : 0 < q := by omega
    refine ⟨fun x => q * h1 x + p * h2 x, Sub.glue (fun x y hxy => ?_) ?_, risesL_two (fun x y hx hy => ?_) es T r1 r2⟩
    · simp only [s1 x y hxy, s2 x y hxy]
    · simp only [hp, hq, Nat.mul_add, Nat.mul_comm p q]; omega
    · have e1 := (Nat.mul_lt_mul_left hq0).2 hx
      have e2 := (Nat.mul_lt_mul_left hp0).2 hy
      show q * h1 x + p * h2 x < q * h1 y + p * h2 y
      omega
  · rintro ⟨h, s, r⟩
    have s' : Sub R h := fun x y hxy => s x y (glue_kept hxy a b)
    have e : h a = h b := s a b (by rw [glue_self, glue_other])
    obtain ⟨h1, a1, b1, c1⟩ := rise_b s' hab e r
    obtain ⟨h2, a2, b2, c2⟩ := rise_b s' (fun e => hab e.symm) e.symm r
    exact ⟨⟨h1, a1, b1, c1⟩, h2, a2, b2, c2⟩
theorem rkd_either {R : Nat → Nat} {a b : Nat} {es : List (Nat × Nat)} {T : Nat → Bool} (hab : R a ≠ R b) :
    ((∃ h, Sub R h ∧ h a < h b ∧ risesL es T h) ∨ ∃ h, Sub R h ∧ h b < h a ∧ risesL es T h) ↔ Rkd R es T := by
  constructor
  · rintro (⟨h, s, _, r⟩ | ⟨h, s, _, r⟩) <;> exact ⟨h, s, r⟩
  · rintro ⟨h, s, r⟩
    rcases Nat.lt_trichotomy (h a) (h b) with l | e | l
    · exact .inl ⟨h, s, l, r⟩
    · exact .inl (rise_b s hab e r)
    · exact .inr ⟨h, s, l, r⟩
theorem rkd_cons (R : Nat → Nat) (e : Nat × Nat) (es : List (Nat × Nat)) (T : Nat → Bool) : Rkd R (e :: es) T ↔ ∃ h, Sub R h ∧ (if T 0 = true then h e.2 < h e.1 else h e.1 < h e.2) ∧ risesL es (fun i => T (i + 1)) h := Iff.rfl
theorem rkd_ker {R R' : Nat → Nat} (h : Ker R R') (es : List (Nat × Nat)) (T : Nat → Bool) : Rkd R es T ↔ Rkd R' es T :=
  ⟨fun ⟨k, s, r⟩ => ⟨k, fun x y e => s x y ((h x y).2 e), r⟩, fun ⟨k, s, r⟩ => ⟨k, fun x y e => s x y ((h x y).1 e), r⟩⟩
noncomputable def rkB (R : Nat → Nat) (es : List (Nat × Nat)) (T : Nat → Bool) : Bool := @decide (Rkd R es T) (Classical.propDecidable _)
theorem rkB_iff {R : Nat → Nat} {es : List (Nat × Nat)} {T : Nat → Bool} : rkB R es T = true ↔ Rkd R es T := by unfold rkB; exact @decide_eq_true_iff _ (Classical.propDecidable _)
theorem rkB_of {R : Nat → Nat} {es : List (Nat × Nat)} {T : Nat → Bool} {b : Bool} (h : b = true ↔ Rkd R es T) : rkB R es T = b := by rw [Bool.eq_iff_iff, rkB_iff, h]
/-- How many arrows never lead back, if R is made one. -/
noncomputable def acyN (R : Nat → Nat) (es : List (Nat × Nat)) : Nat := (List.range (2 ^ es.length)).countP fun s => rkB R es fun i => s.testBit i
theorem countP_duo {q1 q2 q3 q4 : Nat → Bool} {n : Nat} (h : ∀ s, s < n → (if q1 s = true then 1 else 0) + (if q2 s = true then 1 else 0) = (if q3 s = true then 1 else 0) + if q4 s = true then 1 else 0) :
    (List.range n).countP q1 + (List.range n).countP q2 = (List.range n).countP q3 + (List.range n).countP q4 := by
  induction n with
  | zero => rfl
  | succ n ih =>
    have h1 := ih fun s hs => h s (by omega)
    have h2 := h n (by omega)
    simp only [List.range_succ, List.countP_append, List.countP_cons, List.countP_nil]
    omega
theorem bits_even (s : Nat) : (fun i => (2 * s).testBit (i + 1)) = fun i => s.testBit i := by funext i; exact bit_even s i
theorem bits_odd (s : Nat) : (fun i => (2 * s + 1).testBit (i + 1)) = fun i => s.testBit i := by funext i; exact bit_odd s i
theorem first_even (s : Nat) : (2 * s).testBit 0 = false := by simp
theorem first_odd (s : Nat) : (2 * s + 1).testBit 0 = true := by simp [Nat.testBit_zero]
theorem four_way {F G A C : Bool} (h1 : (F = true ∧ G = true) ↔ C = true) (h2 : (F = true ∨ G = true) ↔ A = true) :
    (if F = true then 1 else 0) + (if G = true then 1 else 0) = (if A = true then 1 else 0) + if C = true then 1 else 0 := by
  cases F <;> cases G <;> cases A <;> cases C <;> simp_all
theorem acy_join {R : Nat → Nat} {e : Nat × Nat} (es : List (Nat × Nat)) (h : R e.1 ≠ R e.2) : acyN R (e :: es) = acyN R es + acyN (glue R e.1 e.2) es := by
  unfold acyN
  rw [List.length_cons, Nat.pow_succ, Nat.mul_comm, countP_double]
  refine countP_duo fun s _ => four_way ?_ ?_
  · rw [rkB_iff, rkB_iff, rkB_iff, rkd_cons, rkd_cons, bits_even, bits_odd, first_even, first_odd, ← rkd_glue h]
    simp
  · rw [rkB_iff, rkB_iff, rkB_iff, rkd_cons, rkd_cons, bits_even, bits_odd, first_even, first_odd, ← rkd_either h]
    simp
theorem acy_loop {R : Nat → Nat} {e : Nat × Nat} (es : List (Nat × Nat)) (h : R e.1 = R e.2) : acyN R (e :: es) = 0 := by
  unfold acyN
  rw [List.countP_eq_zero]
  intro s _
  rw [rkB_iff]
  rintro ⟨k, sb, r, _⟩
  have := sb _ _ h
  split at r <;> omega
def arrLeaf (t r : Nat) : Int := sgn (t + r) 1
theorem arrLeaf_next (t r : Nat) : arrLeaf (t + 1) r = - arrLeaf t r := by unfold arrLeaf; rw [show t + 1 + r = t + r + 1 by omega, sgn_succ]
theorem arrLeaf_both (t r : Nat) : arrLeaf (t + 1) (r + 1) = arrLeaf t r := by unfold arrLeaf; rw [show t + 1 + (r + 1) = t + r + 1 + 1 by omega, sgn_succ, sgn_succ]; omega
theorem acy_ker {R R' : Nat → Nat} (h : Ker R R') (es : List (Nat × Nat)) : acyN R es = acyN R' es := by
  unfold acyN
  refine countP_same fun s _ => ?_
  rw [Bool.eq_iff_iff, rkB_iff, rkB_iff, rkd_ker h]
theorem tut_arr_next (es : List (Nat × Nat)) (R : Nat → Nat) (t r : Nat) : tut arrLeaf es R (t + 1) r = - tut arrLeaf es R t r := by
  rw [tut_leaf (leaf := arrLeaf) (leaf' := arrLeaf) (c := -1) es R (t + 1) r t r fun a b => by rw [show t + 1 + a = t + a + 1 by omega, arrLeaf_next]; omega]
  omega
theorem tut_arr_both (es : List (Nat × Nat)) (R : Nat → Nat) (t r : Nat) : tut arrLeaf es R (t + 1) (r + 1) = tut arrLeaf es R t r := by
  rw [tut_leaf (leaf := arrLeaf) (leaf' := arrLeaf) (c := 1) es R (t + 1) (r + 1) t r fun a b => by rw [show t + 1 + a = t + a + 1 by omega, show r + 1 + b = r + b + 1 by omega, arrLeaf_both]; omega]
  omega
theorem acy_tut : ∀ (es : List (Nat × Nat)) (R : Nat → Nat), (acyN R es : Int) = tut arrLeaf es R 0 0
  | [], R => by
    have : acyN R [] = 1 := by
      unfold acyN
      rw [List.length_nil, Nat.pow_zero, List.range_one, List.countP_cons, List.countP_nil, rkB_iff.2 ⟨fun _ => 0, fun _ _ _ => rfl, show risesL [] _ _ from trivial⟩]; rfl
    rw [this]; rfl
  | e :: es, R => by
    by_cases h : R e.1 = R e.2
    · rw [acy_loop es h, tut_loop _ h, tut_arr_next]; omega
    · rw [acy_join es h, tut_join _ h, tut_arr_both, Int.natCast_add, acy_tut es, acy_tut es]
theorem arr_odd (t r : Nat) : ∃ k, arrLeaf t r = 1 + 2 * k := by
  unfold arrLeaf sgn
  split
  · exact ⟨0, by omega⟩
  · exact ⟨-1, by omega⟩
theorem tut_arr_pow : ∀ (es : List (Nat × Nat)) (R : Nat → Nat) (t r : Nat), ∃ k : Int, tut arrLeaf es R t r = ((2 ^ es.length : Nat) : Int) + 2 * k
  | [], _, t, r => arr_odd t r
  | e :: es, R, t, r => by
    obtain ⟨k, hk⟩ := tut_arr_pow es R t r
    simp only [tut]
    split
    · obtain ⟨j, hj⟩ := tut_arr_pow es R (t + 1) r
      exact ⟨k + j, by rw [hk, hj, List.length_cons, Nat.pow_succ]; omega⟩
    · obtain ⟨j, hj⟩ := tut_arr_pow es (glue R e.1 e.2) (t + 1) (r + 1)
      exact ⟨k + j, by rw [hk, hj, List.length_cons, Nat.pow_succ]; omega⟩
theorem acy_even {es : List (Nat × Nat)} (R : Nat → Nat) (h : 0 < es.length) : acyN R es % 2 = 0 := by
  obtain ⟨k, hk⟩ := tut_arr_pow es R 0 0
  rw [← acy_tut] at hk
  obtain ⟨l, hl⟩ : ∃ l, es.length = l + 1 := ⟨es.length - 1, by omega⟩
  rw [hl, Nat.pow_succ] at hk
  omega
theorem acy_none (R : Nat → Nat) : acyN R [] = 1 := by have := acy_tut [] R; simp only [tut, arrLeaf, Nat.add_zero, sgn_zero] at this; omega
/-- An edge that alone has its ends: without it, and with its ends made one. -/
theorem acy_split {n : Nat} {g : Nat × Nat} (hg : 1 ≤ g.1 ∧ g.1 < g.2 ∧ g.2 ≤ n) {l1 l2 : List (Nat × Nat)} (he : EdgesOk n (l1 ++ l2)) :
    acyN (fun x => x) (l1 ++ g :: l2) = acyN (fun x => x) (l1 ++ l2) + acyN (fun x => x) ((l1 ++ l2).map (mmN (renN g))) := by
  have h1 := acy_tut (l1 ++ g :: l2) fun x => x
  rw [tut_move, tut_join _ (show (fun x : Nat => x) g.1 ≠ (fun x : Nat => x) g.2 by simp only; omega), tut_made _ hg _ he, tut_arr_both, ← acy_tut, ← acy_tut] at h1
  omega
theorem tut_le {leaf leaf' : Nat → Nat → Int} {c : Int} {n : Nat} (hn : 1 ≤ n) (h : ∀ t r, r < n → leaf t r = c * leaf' t r) : ∀ (es : List (Nat × Nat)) (R : Nat → Nat) (t r : Nat), EdgesOk n es → Good n R → cnt R n + r = n →
    tut leaf es R t r = c * tut leaf' es R t r
  | [], R, t, r, _, hg, hr => h t r (by have := hg.pos hn; omega)
  | e :: es, R, t, r, he, hg, hr => by
    have he' : EdgesOk n es := fun x hx => he x (by simp [hx])
    have hee := he e (by simp)
    have h2 := cnt_glue (a := e.1) hg.idem hg.range hee.2
    by_cases hj : R e.1 = R e.2
    · rw [tut_loop _ hj, tut_loop _ hj, Int.mul_add, tut_le hn h es R t r he' hg hr, tut_le hn h es R (t + 1) r he' hg hr]
    · rw [if_neg hj] at h2
      rw [tut_join _ hj, tut_join _ hj, Int.mul_add, tut_le hn h es R t r he' hg hr, tut_le hn h es _ (t + 1) (r + 1) he' (hg.glue hee.1) (by omega)]
theorem sgn_mul (t : Nat) (x : Int) : sgn t x = sgn t 1 * x := by unfold sgn; split <;> omega
theorem sgn_pow (k : Nat) : (-1 : Int) ^ k = sgn k 1 := by
  induction k with
  | zero => rfl
  | succ k ih => rw [Int.pow_succ, ih, sgn_succ]; omega
theorem sgn_both (a b : Nat) (x : Int) : sgn a (sgn b x) = sgn (a + b) x := by
  unfold sgn
  by_cases h1 : a % 2 = 0 <;> by_cases h2 : b % 2 = 0
  · rw [if_pos h1, if_pos h2, if_pos (by omega)]
  · rw [if_pos h1, if_neg h2, if_neg (by omega)]
  · rw [if_neg h1, if_pos h2, if_neg (by omega)]
  · rw [if_neg h1, if_neg h2, if_pos (by omega)]; omega
theorem sgn_par {a b : Nat} (h : a % 2 = b % 2) (x : Int) : sgn a x = sgn b x := by unfold sgn; rw [h]
theorem start_cnt (n : Nat) : cnt (fun x => x) n + 0 = n := by rw [cnt_id fun _ => rfl]; omega
theorem good_start (n : Nat) : Good n fun x => x := ⟨fun _ => rfl, fun _ h1 h2 => ⟨h1, h2⟩⟩
/-- Of minus 1 it is how many arrows never lead back, with the sign of the nodes. -/
theorem paint_minus {n : Nat} (hn : 1 ≤ n) {es : List (Nat × Nat)} (he : EdgesOk n es) : sgn n (tut (paintLeaf (-1) n) es (fun x => x) 0 0) = (acyN (fun x => x) es : Int) := by
  rw [acy_tut, tut_le (leaf := paintLeaf (-1) n) (leaf' := arrLeaf) (c := sgn n 1) hn ?_ es _ 0 0 he (good_start n) (start_cnt n), ← sgn_mul, sgn_both, sgn_par (show (n + n) % 2 = 0 % 2 by omega), sgn_zero]
  intro t r hr
  unfold paintLeaf arrLeaf
  rw [sgn_pow, sgn_both, ← sgn_mul, sgn_both]
  exact sgn_par (by omega) 1
theorem paint_none {n : Nat} (hn : 1 ≤ n) {es : List (Nat × Nat)} (he : EdgesOk n es) : tut (paintLeaf 0 n) es (fun x => x) 0 0 = 0 := by
  rw [tut_le (leaf := paintLeaf 0 n) (leaf' := arrLeaf) (c := 0) hn ?_ es _ 0 0 he (good_start n) (start_cnt n), Int.zero_mul]
  intro t r hr
  unfold paintLeaf
  obtain ⟨k, hk⟩ : ∃ k, n - r = k + 1 := ⟨n - r - 1, by omega⟩
  rw [hk, Int.pow_succ, Int.mul_zero, Int.zero_mul]
  unfold sgn; split <;> rfl
theorem paint_one (n : Nat) : ∀ (es : List (Nat × Nat)) (R : Nat → Nat) (t r : Nat), tut (paintLeaf 1 n) es R t r = if es.length = 0 then sgn t 1 else 0
  | [], R, t, r => by simp [tut, paintLeaf, Int.one_pow]
  | e :: es, R, t, r => by
    have hh : ∀ R' r', tut (paintLeaf 1 n) es R t r + tut (paintLeaf 1 n) es R' (t + 1) r' = 0 := fun R' r' => by
      rw [paint_one n es, paint_one n es]
      split
      · rw [sgn_succ]; omega
      · rfl
    simp only [tut, List.length_cons]
    rw [if_neg (show ¬ es.length + 1 = 0 by omega)]
    split <;> exact hh _ _
end Go.Proofs.Ytdacfeebidhgnaa

/- Plain facts on flows: they are counted by numbers in a base, and told by the sum over all choices of edges. -/
namespace Go.Proofs.Ytdacfeebidhgnaa
set_option maxRecDepth 100000

/-- The sum over the nodes that R joins with v. -/
def clsum (n : Nat) (R : Nat → Nat) (f : Nat → Int) (v : Nat) : Int := sumS (fun i => if R (i + 1) = R v then f (i + 1) else 0) n
def balB (m n : Nat) (R : Nat → Nat) (f : Nat → Int) : Bool := (List.range n).all fun i => decide (clsum n R f (i + 1) % (m : Int) = 0)
/-- d more flows from a to b. -/
def addF (f : Nat → Int) (e : Nat × Nat) (d : Nat) (x : Nat) : Int := f x + (if x = e.1 then (d : Int) else 0) - if x = e.2 then (d : Int) else 0
/-- In how many ways the edges may be given numbers from 1 on, so that all is even out. -/
def flN (m n : Nat) (R : Nat → Nat) : List (Nat × Nat) → (Nat → Int) → Nat
  | [], f => if balB m n R f = true then 1 else 0
  | e :: es, f => sumN (fun d => flN m n R es (addF f e (d + 1))) (m - 1)

theorem sumS_add (f g : Nat → Int) : ∀ n, sumS (fun k => f k + g k) n = sumS f n + sumS g n
  | 0 => rfl
  | n + 1 => by simp only [sumS, sumS_add f g n]; omega
theorem sumS_zero {f : Nat → Int} : ∀ n, (∀ k, k < n → f k = 0) → sumS f n = 0
  | 0, _ => rfl
  | n + 1, h => by simp only [sumS, sumS_zero n (fun k hk => h k (by omega)), h n (by omega)]; rfl
theorem sumS_one {f : Nat → Int} {i : Nat} : ∀ n, i < n → (∀ k, k < n → k ≠ i → f k = 0) → sumS f n = f i
  | 0, h, _ => by omega
  | n + 1, h, h2 => by
    simp only [sumS]
    by_cases e : i = n
    · subst e; rw [sumS_zero i fun k hk => h2 k (by omega) (by omega)]; omega
    · rw [sumS_one n (by omega) fun k hk => h2 k (by omega), h2 n (by omega) (by omega)]; omega
theorem clsum_id {n : Nat} {f : Nat → Int} {v : Nat} (h : 1 ≤ v ∧ v ≤ n) : clsum n (fun x => x) f v = f v := by
  unfold clsum
  rw [sumS_one (i := v - 1) n (by omega) fun k hk hne => if_neg (show ¬ k + 1 = v by omega)]
  rw [if_pos (show v - 1 + 1 = v by omega), show v - 1 + 1 = v by omega]
theorem clsum_point {n : Nat} (R : Nat → Nat) {a : Nat} (ha : 1 ≤ a ∧ a ≤ n) (d : Int) (v : Nat) : clsum n R (fun x => if x = a then d else 0) v = if R a = R v then d else 0 := by
  unfold clsum
  rw [sumS_one (i := a - 1) n (by omega) fun k hk hne => by simp only [if_neg (show ¬ k + 1 = a by omega)]; split <;> rfl]
  simp only [show a - 1 + 1 = a by omega, if_true]
theorem clsum_sum (n : Nat) (R : Nat → Nat) (f g : Nat → Int) (v : Nat) : clsum n R (fun x => f x + g x) v = clsum n R f v + clsum n R g v := by
  unfold clsum
  rw [← sumS_add]
  refine sumS_congr _ fun k _ => ?_
  show (if R (k + 1) = R v then f (k + 1) + g (k + 1) else 0) = _
  split <;> omega
theorem clsum_addF {n : Nat} (R : Nat → Nat) (f : Nat → Int) {e : Nat × Nat} (ha : 1 ≤ e.1 ∧ e.1 ≤ n) (hb : 1 ≤ e.2 ∧ e.2 ≤ n) (d v : Nat) :
    clsum n R (addF f e d) v = clsum n R f v + (if R e.1 = R v then (d : Int) else 0) - if R e.2 = R v then (d : Int) else 0 := by
  have h : addF f e d = fun x => (fun x => f x + (fun x => if x = e.1 then (d : Int) else 0) x) x + (fun x => if x = e.2 then -(d : Int) else 0) x := by
    funext x
    show addF f e d x = f x + (if x = e.1 then (d : Int) else 0) + if x = e.2 then -(d : Int) else 0
    unfold addF; split <;> split <;> omega
  rw [h, clsum_sum, clsum_sum, clsum_point R ha, clsum_point R hb]
  split <;> split <;> omega
theorem clsum_glue {n : Nat} {R : Nat → Nat} {a b : Nat} (hab : R a ≠ R b) (f : Nat → Int) (v : Nat) :
    clsum n (glue R a b) f v = if R v = R a ∨ R v = R b then clsum n R f a + clsum n R f b else clsum n R f v := by
  unfold clsum
  by_cases h : R v = R a ∨ R v = R b
  · rw [if_pos h, ← sumS_add]
    refine sumS_congr _ fun k _ => ?_
    by_cases h1 : R (k + 1) = R a
    · rw [if_pos ((glue_eq R a b _ _).2 (.inr ⟨.inl h1, h⟩)), if_pos h1, if_neg (fun e => hab (h1.symm.trans e))]; omega
    · by_cases h2 : R (k + 1) = R b
      · rw [if_pos ((glue_eq R a b _ _).2 (.inr ⟨.inr h2, h⟩)), if_neg h1, if_pos h2]; omega
      · rw [if_neg (fun e => by rcases (glue_eq R a b _ _).1 e with e | e <;> omega), if_neg h1, if_neg h2]; rfl
  · rw [if_neg h]
    refine sumS_congr _ fun k _ => ?_
    have : (glue R a b (k + 1) = glue R a b v) ↔ R (k + 1) = R v := by rw [glue_eq]; omega
    simp only [this]
theorem clsum_joined {n : Nat} {R : Nat → Nat} {v w : Nat} (h : R v = R w) (f : Nat → Int) : clsum n R f v = clsum n R f w := by unfold clsum; rw [h]
theorem balB_iff {m n : Nat} {R : Nat → Nat} {f : Nat → Int} : balB m n R f = true ↔ ∀ v, 1 ≤ v → v ≤ n → clsum n R f v % (m : Int) = 0 := by
  simp only [balB, List.all_eq_true, List.mem_range, decide_eq_true_eq]
  constructor
  · intro h v h1 h2
    have := h (v - 1) (by omega)
    rwa [show v - 1 + 1 = v by omega] at this
  · intro h i hi; exact h _ (by omega) (by omega)
theorem bal_loop {m n : Nat} {R : Nat → Nat} {e : Nat × Nat} (ha : 1 ≤ e.1 ∧ e.1 ≤ n) (hb : 1 ≤ e.2 ∧ e.2 ≤ n) (h : R e.1 = R e.2) (f : Nat → Int) (d : Nat) : balB m n R (addF f e d) = balB m n R f := by
  rw [Bool.eq_iff_iff, balB_iff, balB_iff]
  have : ∀ v, clsum n R (addF f e d) v = clsum n R f v := fun v => by rw [clsum_addF R f ha hb, h]; split <;> omega
  simp only [this]
theorem mod_unique {m : Nat} {s : Int} {d d' : Nat} (hd : d < m) (hd' : d' < m) (h : (s + d) % (m : Int) = 0) (h' : (s + d') % (m : Int) = 0) : d = d' := by
  have h1 := Int.emod_emod_of_dvd (s + d) (Int.dvd_refl (m : Int))
  have h2 : ((d : Int) - d') % (m : Int) = 0 := by
    rw [show (d : Int) - d' = (s + d) - (s + d') by omega, Int.sub_emod, h, h']; rfl
  obtain ⟨k, hk⟩ := Int.dvd_of_emod_eq_zero h2
  have hk0 : k = 0 := by
    rcases Int.lt_trichotomy k 0 with l | e | l
    · have := Int.mul_le_mul_of_nonneg_left (show k ≤ -1 by omega) (show (0 : Int) ≤ m by omega); omega
    · exact e
    · have := Int.mul_le_mul_of_nonneg_left (show 1 ≤ k by omega) (show (0 : Int) ≤ m by omega); omega
  rw [hk0] at hk; omega
theorem bal_join {m n : Nat} (hm : 1 ≤ m) {R : Nat → Nat} {e : Nat × Nat} (ha : 1 ≤ e.1 ∧ e.1 ≤ n) (hb : 1 ≤ e.2 ∧ e.2 ≤ n) (hab : R e.1 ≠ R e.2) (f : Nat → Int) :
    sumN (fun d => if balB m n R (addF f e d) = true then 1 else 0) m = if balB m n (glue R e.1 e.2) f = true then 1 else 0 := by
  have hS : ∀ d v, clsum n R (addF f e d) v = clsum n R f v + (if R e.1 = R v then (d : Int) else 0) - if R e.2 = R v then (d : Int) else 0 := clsum_addF R f ha hb
  have hG := clsum_glue (n := n) hab f
  have e1 : ∀ d, clsum n R (addF f e d) e.1 = clsum n R f e.1 + (d : Int) := fun d => by rw [hS, if_pos rfl, if_neg (fun h => hab h.symm)]; omega
  have e2 : ∀ d, clsum n R (addF f e d) e.2 = clsum n R f e.2 - (d : Int) := fun d => by rw [hS, if_pos rfl, if_neg hab]; omega
  have key : ∀ d, balB m n R (addF f e d) = true → balB m n (glue R e.1 e.2) f = true := fun d h => by
    rw [balB_iff] at h ⊢
    intro v h1 h2
    rw [hG]
    split
    · have h3 := h e.1 ha.1 ha.2
      have h4 := h e.2 hb.1 hb.2
      rw [e1] at h3; rw [e2] at h4
      rw [show clsum n R f e.1 + clsum n R f e.2 = (clsum n R f e.1 + (d : Int)) + (clsum n R f e.2 - (d : Int)) by omega, Int.add_emod, h3, h4]; rfl
    · rename_i h0
      have h3 := h v h1 h2
      rw [hS, if_neg (fun h => h0 (.inl h.symm)), if_neg (fun h => h0 (.inr h.symm))] at h3
      rwa [Int.add_zero, Int.sub_zero] at h3
  cases hC : balB m n (glue R e.1 e.2) f with
  | false =>
    rw [if_neg (by simp)]
    refine sumN_nil _ fun d _ => if_neg fun h => ?_
    rw [key d h] at hC; cases hC
  | true =>
    rw [if_pos rfl]
    have hm0 : (0 : Int) < m := by omega
    obtain ⟨d, hd⟩ : ∃ d : Nat, (-(clsum n R f e.1)) % (m : Int) = d := ⟨((-(clsum n R f e.1)) % (m : Int)).toNat, by have := Int.emod_nonneg (-(clsum n R f e.1)) (show (m : Int) ≠ 0 by omega); omega⟩
    have hdm : d < m := by have := Int.emod_lt_of_pos (-(clsum n R f e.1)) hm0; omega
    have h1 : (clsum n R f e.1 + (d : Int)) % (m : Int) = 0 := by
      rw [← hd, Int.add_emod, Int.emod_emod_of_dvd _ (Int.dvd_refl _), ← Int.add_emod, Int.add_right_neg]; rfl
    refine sumN_one (i := d) 1 m hdm (if_pos ?_) ?_
    · rw [balB_iff] at hC ⊢
      have h2 := hC e.1 ha.1 ha.2
      rw [hG, if_pos (.inl rfl)] at h2
      have h3 : (clsum n R f e.2 - (d : Int)) % (m : Int) = 0 := by
        rw [show clsum n R f e.2 - (d : Int) = (clsum n R f e.1 + clsum n R f e.2) - (clsum n R f e.1 + (d : Int)) by omega, Int.sub_emod, h2, h1]; rfl
      intro v h4 h5
      by_cases ea : R e.1 = R v
      · rw [clsum_joined ea.symm, e1]; exact h1
      · by_cases eb : R e.2 = R v
        · rw [clsum_joined eb.symm, e2]; exact h3
        · rw [hS, if_neg ea, if_neg eb, Int.add_zero, Int.sub_zero]
          have := hC v h4 h5
          rwa [hG, if_neg (fun h => h.elim (fun h => ea h.symm) (fun h => eb h.symm))] at this
    · intro k hk hne
      refine if_neg fun h => hne ?_
      rw [balB_iff] at h
      have := h e.1 ha.1 ha.2
      rw [e1] at this
      exact mod_unique hk hdm this h1
theorem addF_comm (f : Nat → Int) (e e' : Nat × Nat) (d d' : Nat) : addF (addF f e d) e' d' = addF (addF f e' d') e d := by
  funext x; unfold addF; omega
theorem addF_zero (f : Nat → Int) (e : Nat × Nat) : addF f e 0 = f := by
  funext x; unfold addF; split <;> split <;> omega
theorem sumN_comm (F : Nat → Nat → Nat) (a : Nat) : ∀ b, sumN (fun i => sumN (fun j => F i j) b) a = sumN (fun j => sumN (fun i => F i j) a) b
  | 0 => by simp only [sumN]; exact sumN_nil a fun _ _ => rfl
  | b + 1 => by simp only [sumN]; rw [sumN_add, sumN_comm F a b]
theorem flN_loop {m n : Nat} {R : Nat → Nat} {e : Nat × Nat} (ha : 1 ≤ e.1 ∧ e.1 ≤ n) (hb : 1 ≤ e.2 ∧ e.2 ≤ n) (h : R e.1 = R e.2) (d : Nat) : ∀ (es : List (Nat × Nat)) (f : Nat → Int), flN m n R es (addF f e d) = flN m n R es f
  | [], f => by simp only [flN, bal_loop ha hb h]
  | e' :: es, f => by
    simp only [flN]
    refine sumN_congr _ fun k _ => ?_
    rw [addF_comm, flN_loop ha hb h d es]
theorem flN_join {m n : Nat} (hm : 1 ≤ m) {R : Nat → Nat} {e : Nat × Nat} (ha : 1 ≤ e.1 ∧ e.1 ≤ n) (hb : 1 ≤ e.2 ∧ e.2 ≤ n) (hab : R e.1 ≠ R e.2) : ∀ (es : List (Nat × Nat)) (f : Nat → Int),
    sumN (fun d => flN m n R es (addF f e d)) m = flN m n (glue R e.1 e.2) es f
  | [], f => bal_join hm ha hb hab f
  | e' :: es, f => by
    simp only [flN]
    rw [sumN_comm]
    refine sumN_congr _ fun k _ => ?_
    rw [← flN_join hm ha hb hab es]
    exact sumN_congr _ fun d _ => by rw [addF_comm]
theorem flN_step {m n : Nat} (hm : 1 ≤ m) {R : Nat → Nat} {e : Nat × Nat} (ha : 1 ≤ e.1 ∧ e.1 ≤ n) (hb : 1 ≤ e.2 ∧ e.2 ≤ n) (es : List (Nat × Nat)) (f : Nat → Int) :
    flN m n R (e :: es) f + flN m n R es f = if R e.1 = R e.2 then m * flN m n R es f else flN m n (glue R e.1 e.2) es f := by
  obtain ⟨k, rfl⟩ : ∃ k, m = k + 1 := ⟨m - 1, by omega⟩
  have h := sumN_first (fun d => flN (k + 1) n R es (addF f e d)) k
  simp only [addF_zero] at h
  by_cases hj : R e.1 = R e.2
  · rw [if_pos hj]
    simp only [flN_loop ha hb hj, sumN_const] at h
    simp only [flN, flN_loop ha hb hj, sumN_const, Nat.add_sub_cancel]
    rw [Nat.mul_comm, Nat.mul_comm (k + 1)]; rw [Nat.mul_comm] ; rw [Nat.mul_succ]
  · rw [if_neg hj, ← flN_join hm ha hb hj, h]
    simp only [flN, Nat.add_sub_cancel]
    omega
/-- A number taken as often times itself as there are edges more than the rank, by turns of the edges that are not there. -/
def flowLeaf (x : Int) (M : Nat) (t r : Nat) : Int := sgn (M + t) (x ^ (t - r))
theorem bal_start (m n : Nat) (R : Nat → Nat) : balB m n R (fun _ => 0) = true := by
  rw [balB_iff]
  intro v _ _
  unfold clsum
  rw [sumS_zero n fun k _ => by split <;> rfl]; simp
theorem sgn_mulr (t : Nat) (x y : Int) : sgn t (x * y) = x * sgn t y := by unfold sgn; split <;> simp [Int.mul_neg]
theorem flow_tut {m n : Nat} (hm : 1 ≤ m) (M : Nat) : ∀ (es : List (Nat × Nat)) (R : Nat → Nat) (t r : Nat), EdgesOk n es → r ≤ t →
    tut (flowLeaf m M) es R t r = sgn (M + t + es.length) ((m : Int) ^ (t - r) * (flN m n R es (fun _ => 0) : Int))
  | [], R, t, r, _, _ => by simp [tut, flowLeaf, flN, bal_start]
  | e :: es, R, t, r, he, hr => by
    have he' : EdgesOk n es := fun x hx => he x (by simp [hx])
    have hee := he e (by simp)
    have h0 := flN_step (m := m) (R := R) hm hee.1 hee.2 es (fun _ => 0)
    have h1 := flow_tut hm M es R t r he' hr
    have hl : M + t + (e :: es).length = M + t + es.length + 1 := by simp only [List.length_cons]; omega
    by_cases hj : R e.1 = R e.2
    · have h2 := flow_tut hm M es R (t + 1) r he' (by omega)
      rw [if_pos hj] at h0
      have h3 : (flN m n R (e :: es) (fun _ => 0) : Int) = (m : Int) * (flN m n R es (fun _ => 0) : Int) - (flN m n R es (fun _ => 0) : Int) := by rw [← Int.natCast_mul]; omega
      rw [tut_loop _ hj, h1, h2, hl, show M + (t + 1) + es.length = M + t + es.length + 1 by omega, sgn_succ, sgn_succ, show t + 1 - r = t - r + 1 by omega, Int.pow_succ, Int.mul_assoc, h3, Int.mul_sub]
      generalize (m : Int) ^ (t - r) * (flN m n R es fun x => 0) = X
      generalize (m : Int) ^ (t - r) * ((m : Int) * (flN m n R es fun x => 0)) = Y
      unfold sgn; split <;> omega
    · have h2 := flow_tut hm M es (glue R e.1 e.2) (t + 1) (r + 1) he' (by omega)
      rw [if_neg hj] at h0
      have h3 : (flN m n R (e :: es) (fun _ => 0) : Int) = (flN m n (glue R e.1 e.2) es (fun _ => 0) : Int) - (flN m n R es (fun _ => 0) : Int) := by omega
      rw [tut_join _ hj, h1, h2, hl, show M + (t + 1) + es.length = M + t + es.length + 1 by omega, sgn_succ, sgn_succ, show t + 1 - (r + 1) = t - r by omega, h3, Int.mul_sub]
      generalize (m : Int) ^ (t - r) * (flN m n R es fun x => 0) = X
      generalize (m : Int) ^ (t - r) * (flN m n (glue R e.1 e.2) es fun x => 0) = Y
      unfold sgn; split <;> omega
/-- What flows at each node, by a number in the base c. -/
def accF (c : Nat) : List (Nat × Nat) → Nat → (Nat → Int) → Nat → Int
  | [], _, f => f
  | e :: es, w, f => accF c es (w / c) (addF f e (w % c + 1))
theorem countP_lowest (g : Nat → Bool) (c : Nat) : ∀ a, (List.range (c * a)).countP g = sumN (fun d => (List.range a).countP fun w => g (c * w + d)) c
  | 0 => by rw [Nat.mul_zero]; exact (sumN_nil c fun _ _ => rfl).symm
  | a + 1 => by
    rw [Nat.mul_succ, List.range_add, List.countP_append, countP_lowest g c a, List.countP_map]
    have h : ∀ k, (List.range k).countP (g ∘ (fun x => c * a + x)) = sumN (fun d => if g (c * a + d) = true then 1 else 0) k := by
      intro k
      induction k with
      | zero => rfl
      | succ k ih => rw [List.range_succ, List.countP_append, ih, List.countP_cons, List.countP_nil]; simp only [sumN, Function.comp]; omega
    rw [h, ← sumN_add]
    refine sumN_congr _ fun d _ => ?_
    rw [List.range_succ, List.countP_append, List.countP_cons, List.countP_nil]; omega
def flowN (m n : Nat) (es : List (Nat × Nat)) (f : Nat → Int) : Nat := (List.range ((m - 1) ^ es.length)).countP fun w => balB m n (fun x => x) (accF (m - 1) es w f)
theorem flowN_flN (m n : Nat) : ∀ (es : List (Nat × Nat)) (f : Nat → Int), flowN m n es f = flN m n (fun x => x) es f
  | [], f => by simp [flowN, flN, accF, List.countP_cons]
  | e :: es, f => by
    unfold flowN
    rw [List.length_cons, Nat.pow_succ, Nat.mul_comm, countP_lowest]
    simp only [flN]
    refine sumN_congr _ fun d hd => ?_
    rw [← flowN_flN m n es]
    unfold flowN
    refine countP_same fun w _ => ?_
    simp only [accF]
    rw [Nat.mul_add_div (by omega), Nat.div_eq_of_lt hd, Nat.mul_add_mod, Nat.mod_eq_of_lt hd, Nat.add_zero]
theorem flowN_tut {m n : Nat} (hm : 1 ≤ m) {es : List (Nat × Nat)} (he : EdgesOk n es) : (flowN m n es (fun _ => 0) : Int) = tut (flowLeaf m es.length) es (fun x => x) 0 0 := by
  rw [flow_tut hm es.length es (fun x => x) 0 0 he (Nat.le_refl _), flowN_flN, Nat.sub_self, sgn_par (show (es.length + 0 + es.length) % 2 = 0 % 2 by omega), sgn_zero, Int.pow_zero, Int.one_mul]
theorem flowLeaf_both (x : Int) (M t r : Nat) : flowLeaf x M (t + 1) (r + 1) = - flowLeaf x M t r := by
  unfold flowLeaf; rw [show M + (t + 1) = M + t + 1 by omega, sgn_succ, show t + 1 - (r + 1) = t - r by omega]
/-- An edge whose ends nothing else joins: no flows. -/
theorem flow_bridge (x : Int) (M : Nat) {e : Nat × Nat} : ∀ (es : List (Nat × Nat)) (R : Nat → Nat) (t r : Nat), (∃ F : Nat → Nat, Sub R F ∧ (∀ f ∈ es, F f.1 = F f.2) ∧ F e.1 ≠ F e.2) →
    tut (flowLeaf x M) es R t r + tut (flowLeaf x M) es (glue R e.1 e.2) (t + 1) (r + 1) = 0
  | [], R, t, r, _ => by simp only [tut, flowLeaf_both]; omega
  | f :: es, R, t, r, ⟨F, hs, hj, hne⟩ => by
    have hf := hj f (by simp)
    have hj' : ∀ f ∈ es, F f.1 = F f.2 := fun f h => hj f (by simp [h])
    have h1 := flow_bridge x M es R t r ⟨F, hs, hj', hne⟩
    by_cases hr : R f.1 = R f.2
    · have h2 := flow_bridge x M es R (t + 1) r ⟨F, hs, hj', hne⟩
      rw [tut_loop _ hr, tut_loop _ (glue_kept hr _ _)]
      omega
    · have hg : glue R e.1 e.2 f.1 ≠ glue R e.1 e.2 f.2 := fun h => by
        rcases (glue_eq R e.1 e.2 f.1 f.2).1 h with h | ⟨h3, h4⟩
        · exact hr h
        · apply hne
          rcases h3 with h3 | h3 <;> rcases h4 with h4 | h4
          · exact absurd (h3.trans h4.symm) hr
          · rw [← hs _ _ h3, ← hs _ _ h4, hf]
          · rw [← hs _ _ h3, ← hs _ _ h4, hf]
          · exact absurd (h3.trans h4.symm) hr
      have h2 := flow_bridge x M es (glue R f.1 f.2) (t + 1) (r + 1) ⟨F, hs.glue hf, hj', hne⟩
      rw [tut_join _ hr, tut_join _ hg, tut_ker _ es _ _ _ _ (Ker.comm R e.1 e.2 f.1 f.2)]
      omega
theorem flow_none (x : Int) (M : Nat) {e : Nat × Nat} {l1 l2 : List (Nat × Nat)} (hne : e.1 ≠ e.2) (h : ∃ F : Nat → Nat, (∀ f ∈ l1 ++ l2, F f.1 = F f.2) ∧ F e.1 ≠ F e.2) :
    tut (flowLeaf x M) (l1 ++ e :: l2) (fun x => x) 0 0 = 0 := by
  obtain ⟨F, h1, h2⟩ := h
  rw [tut_move, tut_join _ hne]
  exact flow_bridge x M (l1 ++ l2) (fun x => x) 0 0 ⟨F, fun x y h => congrArg F (show x = y from h), h1, h2⟩
/-- An edge that alone has its ends: with its ends made one, less without it. -/
theorem flow_split (x : Int) {n : Nat} {g : Nat × Nat} (hg : 1 ≤ g.1 ∧ g.1 < g.2 ∧ g.2 ≤ n) {l1 l2 : List (Nat × Nat)} (he : EdgesOk n (l1 ++ l2)) :
    tut (flowLeaf x (l1 ++ g :: l2).length) (l1 ++ g :: l2) (fun x => x) 0 0 = tut (flowLeaf x ((l1 ++ l2).map (mmN (renN g))).length) ((l1 ++ l2).map (mmN (renN g))) (fun x => x) 0 0 - tut (flowLeaf x (l1 ++ l2).length) (l1 ++ l2) (fun x => x) 0 0 := by
  rw [tut_move, tut_join _ (show (fun x : Nat => x) g.1 ≠ (fun x : Nat => x) g.2 by simp only; omega), tut_made _ hg _ he]
  have hl : (l1 ++ g :: l2).length = (l1 ++ l2).length + 1 := by simp; omega
  rw [hl, List.length_map]
  generalize (l1 ++ l2).length = M
  rw [tut_leaf (leaf := flowLeaf x (M + 1)) (leaf' := flowLeaf x M) (c := -1) (l1 ++ l2) _ 0 0 0 0 fun a b => by
    unfold flowLeaf; rw [show M + 1 + (0 + a) = M + (0 + a) + 1 by omega, sgn_succ]; omega]
  rw [tut_leaf (leaf := flowLeaf x (M + 1)) (leaf' := flowLeaf x M) (c := 1) _ _ (0 + 1) (0 + 1) 0 0 fun a b => by
    unfold flowLeaf; rw [show M + 1 + (0 + 1 + a) = M + (0 + a) + 1 + 1 by omega, sgn_succ, sgn_succ, show 0 + 1 + a - (0 + 1 + b) = 0 + a - (0 + b) by omega]; omega]
  omega
theorem flow_one {n : Nat} {es : List (Nat × Nat)} : flowN 1 n es (fun _ => 0) = if es.length = 0 then 1 else 0 := by
  cases es with
  | nil => simp [flowN, accF, bal_start]
  | cons e es => simp [flowN, Nat.pow_succ]
end Go.Proofs.Ytdacfeebidhgnaa

/- Plain facts on arrows that lead back: what is told by taking nodes away to which no arrows lead, or from which none lead. -/
namespace Go.Proofs.Ytdacfeebidhgnaa
set_option maxRecDepth 100000

/-- Where the arrow of an edge begins, and where it ends. -/
def frE (e : Nat × Nat) (t : Bool) : Nat := if t = true then e.2 else e.1
def toE (e : Nat × Nat) (t : Bool) : Nat := if t = true then e.1 else e.2
theorem rises_iff {h : Nat → Nat} : ∀ (l : List (Nat × Nat)) (T : Nat → Bool), risesL l T h ↔ ∀ k e, l[k]? = some e → h (frE e (T k)) < h (toE e (T k))
  | [], T => by simp [risesL]
  | e :: l, T => by
    unfold risesL
    rw [rises_iff l]
    constructor
    · rintro ⟨h1, h2⟩ k f hk
      cases k with
      | zero =>
        simp only [List.getElem?_cons_zero, Option.some.injEq] at hk
        subst hk
        unfold frE toE
        split
        · rename_i ht; rwa [if_pos ht] at h1
        · rename_i ht; rwa [if_neg ht] at h1
      | succ k => rw [List.getElem?_cons_succ] at hk; exact h2 k f hk
    · intro hh
      refine ⟨?_, fun k f hk => hh (k + 1) f (by rw [List.getElem?_cons_succ]; exact hk)⟩
      have := hh 0 e (by simp)
      unfold frE toE at this
      split
      · rename_i ht; rwa [if_pos ht, if_pos ht] at this
      · rename_i ht; rwa [if_neg ht, if_neg ht] at this
theorem rkd_id {l : List (Nat × Nat)} {T : Nat → Bool} : Rkd (fun x => x) l T ↔ ∃ h : Nat → Nat, ∀ k e, l[k]? = some e → h (frE e (T k)) < h (toE e (T k)) := by
  constructor
  · rintro ⟨h, _, r⟩; exact ⟨h, (rises_iff l T).1 r⟩
  · rintro ⟨h, r⟩; exact ⟨h, fun x y e => congrArg h (show x = y from e), (rises_iff l T).2 r⟩
/-- One comes back. -/
noncomputable def backV (l : List (Nat × Nat)) (s : Nat) : Bool := !rkB (fun x => x) l fun i => s.testBit i
theorem backV_iff {l : List (Nat × Nat)} {s : Nat} : backV l s = false ↔ ∃ h : Nat → Nat, ∀ k e, l[k]? = some e → h (frE e (s.testBit k)) < h (toE e (s.testBit k)) := by
  unfold backV
  rw [Bool.not_eq_false', rkB_iff, rkd_id]
/-- All nodes taken away have numbers that rise along the arrows to them. -/
def InvG (l : List (Nat × Nat)) (T G : Nat → Bool) : Prop := ∃ (h : Nat → Nat) (b : Nat), (∀ x, G x = true → h x < b) ∧ ∀ k e, l[k]? = some e → G (toE e (T k)) = true → G (frE e (T k)) = true ∧ h (frE e (T k)) < h (toE e (T k))
/-- An arrow leads to j from a node that is not taken away, among the first k. -/
def inG (l : List (Nat × Nat)) (T G : Nat → Bool) (j k : Nat) : Bool := (List.range k).any fun i => match l[i]? with | some e => decide (toE e (T i) = j) && !G (frE e (T i)) | none => false
theorem inG_next {l : List (Nat × Nat)} {T G : Nat → Bool} {j k : Nat} {e : Nat × Nat} (h : l[k]? = some e) : inG l T G j (k + 1) = (inG l T G j k || (decide (toE e (T k) = j) && !G (frE e (T k)))) := by
  unfold inG
  rw [List.range_succ, List.any_append]
  simp only [List.any_cons, List.any_nil, Bool.or_false, h]
theorem inG_iff {l : List (Nat × Nat)} {T G : Nat → Bool} {j : Nat} : inG l T G j l.length = true ↔ ∃ k e, l[k]? = some e ∧ toE e (T k) = j ∧ G (frE e (T k)) = false := by
  unfold inG
  rw [List.any_eq_true]
  constructor
  · rintro ⟨k, hk, h⟩
    obtain ⟨e, he⟩ : ∃ e, l[k]? = some e := ⟨_, List.getElem?_eq_getElem (List.mem_range.1 hk)⟩
    rw [he] at h
    simp only [Bool.and_eq_true, decide_eq_true_eq, Bool.not_eq_true'] at h
    exact ⟨k, e, he, h.1, h.2⟩
  · rintro ⟨k, e, he, h1, h2⟩
    refine ⟨k, List.mem_range.2 (List.getElem?_eq_some_iff.1 he).1, ?_⟩
    rw [he]
    simp [h1, h2]
/-- To each node before j that is not taken away an arrow leads from another one. -/
def StabG (l : List (Nat × Nat)) (T G : Nat → Bool) (j : Nat) : Prop := ∀ v, 1 ≤ v → v < j → G v = false → inG l T G v l.length = true
def cntG (G : Nat → Bool) : Nat → Nat
  | 0 => 0
  | k + 1 => cntG G k + if G (k + 1) = true then 1 else 0
def setG (G : Nat → Bool) (k : Nat) (v : Bool) (i : Nat) : Bool := if i = k then v else G i
theorem cntG_le (G : Nat → Bool) : ∀ k, cntG G k ≤ k
  | 0 => Nat.le_refl _
  | k + 1 => by have := cntG_le G k; simp only [cntG]; split <;> omega
theorem cntG_congr {G H : Nat → Bool} : ∀ k, (∀ v, 1 ≤ v → v ≤ k → G v = H v) → cntG G k = cntG H k
  | 0, _ => rfl
  | k + 1, h => by simp only [cntG, cntG_congr k (fun v h1 h2 => h v h1 (by omega)), h (k + 1) (by omega) (by omega)]
theorem cntG_set {G : Nat → Bool} {j : Nat} (hj : 1 ≤ j) (h0 : G j = false) : ∀ k, j ≤ k → cntG (setG G j true) k = cntG G k + 1
  | 0, h => by omega
  | k + 1, h => by
    simp only [cntG]
    by_cases e : j = k + 1
    · subst e
      rw [cntG_congr (G := setG G (k + 1) true) (H := G) k fun v _ h2 => by unfold setG; rw [if_neg (by omega)]]
      simp [setG, h0]
    · rw [cntG_set hj h0 k (by omega)]
      have : setG G j true (k + 1) = G (k + 1) := by unfold setG; rw [if_neg (fun h => e h.symm)]
      rw [this]; omega
theorem cntG_all {G : Nat → Bool} : ∀ k, k ≤ cntG G k → ∀ v, 1 ≤ v → v ≤ k → G v = true
  | 0, _, v, h1, h2 => by omega
  | k + 1, h, v, h1, h2 => by
    simp only [cntG] at h
    have := cntG_le G k
    by_cases e : v = k + 1
    · subst e
      by_cases hv : G (k + 1) = true
      · exact hv
      · rw [if_neg hv] at h; omega
    · refine cntG_all k ?_ v h1 (by omega)
      split at h <;> omega
theorem InvG.start (l : List (Nat × Nat)) (T : Nat → Bool) : InvG l T fun _ => false := ⟨fun _ => 0, 0, fun _ h => by simp at h, fun _ _ _ h => by simp at h⟩
theorem InvG.set {l : List (Nat × Nat)} {T G : Nat → Bool} {j : Nat} (h : InvG l T G) (h0 : G j = false) (hin : inG l T G j l.length = false) : InvG l T (setG G j true) := by
  obtain ⟨f, b, h1, h2⟩ := h
  have hno : ∀ k e, l[k]? = some e → toE e (T k) = j → G (frE e (T k)) = true := fun k e he ht => by
    cases hg : G (frE e (T k)) with
    | true => rfl
    | false => rw [inG_iff.2 ⟨k, e, he, ht, hg⟩] at hin; cases hin
  refine ⟨fun x => if x = j then b else f x, b + 1, fun x hx => ?_, fun k e he ht => ?_⟩
  · show (if x = j then b else f x) < b + 1
    by_cases e : x = j
    · rw [if_pos e]; omega
    · unfold setG at hx; rw [if_neg e] at hx
      have := h1 x hx
      rw [if_neg e]; omega
  · by_cases ej : toE e (T k) = j
    · have hg := hno k e he ej
      have hne : frE e (T k) ≠ j := fun e' => by rw [e', h0] at hg; cases hg
      refine ⟨by unfold setG; rw [if_neg hne]; exact hg, ?_⟩
      show (if frE e (T k) = j then b else f (frE e (T k))) < if toE e (T k) = j then b else f (toE e (T k))
      rw [if_neg hne, if_pos ej]; exact h1 _ hg
    · unfold setG at ht
      rw [if_neg ej] at ht
      obtain ⟨h3, h4⟩ := h2 k e he ht
      have hne : frE e (T k) ≠ j := fun e' => by rw [e', h0] at h3; cases h3
      refine ⟨by unfold setG; rw [if_neg hne]; exact h3, ?_⟩
      show (if frE e (T k) = j then b else f (frE e (T k))) < if toE e (T k) = j then b else f (toE e (T k))
      rw [if_neg hne, if_neg ej]; exact h4
theorem StabG.set {l : List (Nat × Nat)} {T G : Nat → Bool} {j : Nat} (h : StabG l T G j) (hj : G j = true ∨ inG l T G j l.length = true) : StabG l T G (j + 1) := fun v h1 h2 h3 => by
  by_cases e : v = j
  · subst e
    rcases hj with hj | hj
    · rw [hj] at h3; cases h3
    · exact hj
  · exact h v h1 (by omega) h3
theorem ends_range {n : Nat} {l : List (Nat × Nat)} (he : EdgesOk n l) {k : Nat} {e : Nat × Nat} (h : l[k]? = some e) (t : Bool) : (1 ≤ frE e t ∧ frE e t ≤ n) ∧ 1 ≤ toE e t ∧ toE e t ≤ n := by
  have := he e (List.mem_of_getElem? h)
  unfold frE toE
  split <;> omega
/-- A node that is left when nothing can be taken away any more: one comes back. -/
theorem stab_back {n : Nat} {l : List (Nat × Nat)} (he : EdgesOk n l) {s : Nat} {G : Nat → Bool} (h : StabG l (fun i => s.testBit i) G (n + 1)) {v : Nat} (h1 : 1 ≤ v) (h2 : v ≤ n) (h3 : G v = false) : backV l s = true := by
  rw [← Bool.not_eq_false, backV_iff]
  rintro ⟨f, hf⟩
  have : ∀ m v, f v < m → 1 ≤ v → v ≤ n → G v = false → False := by
    intro m
    induction m with
    | zero => intro v h; omega
    | succ m ih =>
      intro v hv h1 h2 h3
      obtain ⟨k, e, hk, ht, hg⟩ := inG_iff.1 (h v h1 (by omega) h3)
      have h4 := hf k e hk
      have h5 := ends_range he hk (s.testBit k)
      rw [ht] at h4
      exact ih _ (by omega) h5.1.1 h5.1.2 hg
  exact this (f v + 1) v (by omega) h1 h2 h3
theorem all_gone {n : Nat} {l : List (Nat × Nat)} (he : EdgesOk n l) {s : Nat} {G : Nat → Bool} (h : InvG l (fun i => s.testBit i) G) (hall : ∀ v, 1 ≤ v → v ≤ n → G v = true) : backV l s = false := by
  obtain ⟨f, b, _, h2⟩ := h
  rw [backV_iff]
  refine ⟨f, fun k e hk => ?_⟩
  have h5 := ends_range he hk (s.testBit k)
  exact (h2 k e hk (hall _ h5.2.1 h5.2.2)).2
/-- The greatest of the first numbers. -/
def maxF (f : Nat → Nat) : Nat → Nat
  | 0 => 0
  | k + 1 => max (maxF f k) (f (k + 1))
theorem le_maxF (f : Nat → Nat) : ∀ k x, 1 ≤ x → x ≤ k → f x ≤ maxF f k
  | 0, x, h1, h2 => by omega
  | k + 1, x, h1, h2 => by
    simp only [maxF]
    by_cases e : x = k + 1
    · subst e; omega
    · have := le_maxF f k x h1 (by omega); omega
/-- The other way: numbers that fall along each arrow. -/
theorem back_falls {n : Nat} {l : List (Nat × Nat)} (he : EdgesOk n l) {s : Nat} : backV l s = false ↔ ∃ h : Nat → Nat, ∀ k e, l[k]? = some e → h (toE e (s.testBit k)) < h (frE e (s.testBit k)) := by
  rw [backV_iff]
  constructor
  · rintro ⟨f, hf⟩
    refine ⟨fun x => maxF f n - f x, fun k e hk => ?_⟩
    have h5 := ends_range he hk (s.testBit k)
    have h1 := le_maxF f n _ h5.1.1 h5.1.2
    have h2 := le_maxF f n _ h5.2.1 h5.2.2
    have := hf k e hk
    show maxF f n - f (toE e (s.testBit k)) < maxF f n - f (frE e (s.testBit k))
    omega
  · rintro ⟨f, hf⟩
    refine ⟨fun x => maxF f n - f x, fun k e hk => ?_⟩
    have h5 := ends_range he hk (s.testBit k)
    have h1 := le_maxF f n _ h5.1.1 h5.1.2
    have h2 := le_maxF f n _ h5.2.1 h5.2.2
    have := hf k e hk
    show maxF f n - f (frE e (s.testBit k)) < maxF f n - f (toE e (s.testBit k))
    omega
/-- What a net's arrows lead back. -/
noncomputable def backB (n : Int) (es : List (Int × Int)) (s : Int) : Bool := stateOkB n es s && backV (endsL es) s.toNat
/-- All arrows turned. -/
theorem back_turn {n : Nat} {l : List (Nat × Nat)} (he : EdgesOk n l) {s t : Nat} (h : ∀ k, k < l.length → t.testBit k = !s.testBit k) : backV l t = backV l s := by
  have one : ∀ s t : Nat, (∀ k, k < l.length → t.testBit k = !s.testBit k) → backV l s = false → backV l t = false := fun s t h hs => by
    rw [back_falls he]
    obtain ⟨f, hf⟩ := backV_iff.1 hs
    refine ⟨f, fun k e hk => ?_⟩
    have hlt := (List.getElem?_eq_some_iff.1 hk).1
    have := hf k e hk
    rw [h k hlt]
    unfold frE toE at this ⊢
    cases hb : s.testBit k <;> simp only [hb] at this ⊢ <;> simpa using this
  cases hs : backV l s with
  | false => exact one s t h hs
  | true =>
    cases ht : backV l t with
    | true => rfl
    | false => rw [one t s (fun k hk => by rw [h k hk, Bool.not_not]) ht] at hs; cases hs
theorem back_none {l : List (Nat × Nat)} (h : ∀ e ∈ l, e.1 < e.2) : backV l 0 = false := by
  rw [backV_iff]
  refine ⟨fun x => x, fun k e hk => ?_⟩
  have := h e (List.mem_of_getElem? hk)
  simpa [frE, toE] using this
/-- Without the last edge. -/
theorem back_less {l : List (Nat × Nat)} {m s t : Nat} (h : ∀ k, k < m → t.testBit k = s.testBit k) (hs : backV l s = false) : backV (l.take m) t = false := by
  obtain ⟨f, hf⟩ := backV_iff.1 hs
  rw [backV_iff]
  refine ⟨f, fun k e hk => ?_⟩
  have hlt := (List.getElem?_eq_some_iff.1 hk).1
  rw [List.length_take] at hlt
  have hk2 : l[k]? = some e := by rwa [List.getElem?_take_of_lt (by omega)] at hk
  rw [h k (by omega)]; exact hf k e hk2
theorem acy_states (l : List (Nat × Nat)) : acyN (fun x => x) l = (List.range (2 ^ l.length)).countP fun s => !backV l s := by
  unfold acyN
  refine countP_same fun s _ => ?_
  unfold backV; rw [Bool.not_not]
end Go.Proofs.Ytdacfeebidhgnaa
