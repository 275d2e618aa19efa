/- Plain facts on paintings: they are counted by numbers in a base, and told by the sum over all choices of edges. -/
import Derived.Test.YtgacgaidlbkkmaaTutte
namespace Go.Proofs.Ytgacgaidlbkkmaa
set_option maxRecDepth 100000

def sgn (t : Nat) (x : Int) : Int := if t % 2 = 0 then x else -x
theorem sgn_succ (t : Nat) (x : Int) : sgn (t + 1) x = - sgn t x := by
  unfold sgn
  by_cases h : t % 2 = 0
  · rw [if_pos h, if_neg (by omega)]
  · rw [if_neg h, if_pos (by omega)]; omega
theorem sgn_sgn (t : Nat) (x : Int) : sgn t (sgn t x) = x := by
  unfold sgn; split <;> omega
theorem sgn_add (t : Nat) (x y : Int) : sgn t (x + y) = sgn t x + sgn t y := by
  unfold sgn; split <;> omega
theorem sgn_zero (x : Int) : sgn 0 x = x := by simp [sgn]

/-- The digit for node x of a number in the base c. -/
def dig (c w x : Nat) : Nat := w / c ^ (x - 1) % c
def updF (f : Nat → Nat) (k d : Nat) (x : Nat) : Nat := if x = k then d else f x
/-- How many functions meet q that are like f but for 1..k, and below c there. -/
def cols (c : Nat) (q : (Nat → Nat) → Bool) : Nat → (Nat → Nat) → Nat
  | 0, f => if q f = true then 1 else 0
  | k + 1, f => sumN (fun d => cols c q k (updF f (k + 1) d)) c
theorem countP_mul (g : Nat → Bool) (a : Nat) : ∀ c, (List.range (a * c)).countP g = sumN (fun d => (List.range a).countP fun w => g (d * a + w)) c
  | 0 => by simp [sumN]
  | c + 1 => by
    rw [Nat.mul_succ, List.range_add, List.countP_append, countP_mul g a c, List.countP_map]
    simp only [sumN]
    congr 1
    refine countP_same fun w _ => ?_
    simp only [Function.comp, Nat.mul_comm]
def ext (c w k : Nat) (f : Nat → Nat) (x : Nat) : Nat := if 1 ≤ x ∧ x ≤ k then dig c w x else f x
theorem dig_low {c w d k x : Nat} (hx : 1 ≤ x ∧ x ≤ k) : dig c (d * c ^ k + w) x = dig c w x := by
  unfold dig
  obtain ⟨m, rfl⟩ : ∃ m, k = x - 1 + 1 + m := ⟨k - x, by omega⟩
  by_cases hc : c = 0
  · subst hc; simp
    by_cases h1 : x = 1
    · subst h1; simp
      rw [show 1 + m = m + 1 by omega, Nat.pow_succ]; simp
    · rw [show x - 1 + 1 + m = (x - 1 + m) + 1 by omega, Nat.pow_succ]; simp
  · rw [Nat.pow_add, Nat.pow_succ, show d * (c ^ (x - 1) * c * c ^ m) + w = w + c ^ (x - 1) * (c * (d * c ^ m)) by
      rw [Nat.add_comm, Nat.mul_comm d, Nat.mul_assoc, Nat.mul_assoc, Nat.mul_comm (c ^ m) d]]
    rw [Nat.add_mul_div_left _ _ (Nat.pow_pos (by omega)), Nat.add_mul_mod_self_left]
theorem dig_top {c w d k : Nat} (hd : d < c) (hw : w < c ^ k) : dig c (d * c ^ k + w) (k + 1) = d := by
  unfold dig
  rw [Nat.add_sub_cancel, Nat.add_comm, Nat.add_mul_div_right _ _ (by omega), Nat.div_eq_of_lt hw, Nat.zero_add, Nat.mod_eq_of_lt hd]
theorem cols_count (c : Nat) (q : (Nat → Nat) → Bool) : ∀ (k : Nat) (f : Nat → Nat), (List.range (c ^ k)).countP (fun w => q (ext c w k f)) = cols c q k f
  | 0, f => by
    have : ext c 0 0 f = f := by funext x; simp only [ext]; rw [if_neg (by omega)]
    rw [Nat.pow_zero, List.range_one, List.countP_cons, List.countP_nil, this, cols, Nat.zero_add]
  | k + 1, f => by
    rw [Nat.pow_succ, countP_mul]
    simp only [cols]
    refine sumN_congr _ fun d hd => ?_
    rw [← cols_count c q k (updF f (k + 1) d)]
    refine countP_same fun w hw => ?_
    congr 1
    funext x
    unfold ext updF
    by_cases h1 : 1 ≤ x ∧ x ≤ k
    · rw [if_pos (by omega), if_pos h1, dig_low h1]
    · by_cases h2 : x = k + 1
      · subst h2
        rw [if_pos (by omega), if_neg h1, if_pos rfl, dig_top hd hw]
      · rw [if_neg (by omega), if_neg h1, if_neg h2]
theorem cols_add {c : Nat} {q q1 q2 : (Nat → Nat) → Bool} (h : ∀ g, (if q g = true then 1 else 0) = (if q1 g = true then 1 else 0) + if q2 g = true then 1 else 0) : ∀ k f, cols c q k f = cols c q1 k f + cols c q2 k f
  | 0, f => h f
  | k + 1, f => by
    simp only [cols]
    rw [← sumN_add]
    exact sumN_congr _ fun d _ => cols_add h k _
theorem sumN_first_le {f g : Nat → Nat} : ∀ n, (∀ k, k < n → f k ≤ g k) → sumN f n ≤ sumN g n
  | 0, _ => Nat.le_refl _
  | n + 1, h => Nat.add_le_add (sumN_first_le n fun k hk => h k (by omega)) (h n (by omega))
theorem cols_more (c : Nat) (q : (Nat → Nat) → Bool) : ∀ k f, cols c q k f ≤ cols (c + 1) q k f
  | 0, _ => Nat.le_refl _
  | k + 1, f => by
    simp only [cols]
    refine Nat.le_trans (sumN_first_le c fun d _ => cols_more c q k _) ?_
    simp only [sumN]; omega
theorem sumN_nil {f : Nat → Nat} : ∀ n, (∀ k, k < n → f k = 0) → sumN f n = 0
  | 0, _ => rfl
  | n + 1, h => by simp only [sumN, sumN_nil n (fun k hk => h k (by omega)), h n (by omega)]
theorem sumN_const (a : Nat) : ∀ n, sumN (fun _ => a) n = a * n
  | 0 => rfl
  | n + 1 => by simp only [sumN, sumN_const a n, Nat.mul_succ]
theorem sumN_one {f : Nat → Nat} {i : Nat} (a : Nat) : ∀ n, i < n → f i = a → (∀ k, k < n → k ≠ i → f k = 0) → sumN f n = a
  | 0, h, _, _ => by omega
  | n + 1, h, h1, h2 => by
    simp only [sumN]
    by_cases e : i = n
    · subst e; rw [sumN_nil i fun k hk => h2 k (by omega) (by omega), h1, Nat.zero_add]
    · rw [sumN_one a n (by omega) h1 (fun k hk => h2 k (by omega)), h2 n (by omega) (by omega)]; rfl
theorem cols_none {c : Nat} {q : (Nat → Nat) → Bool} : ∀ k f, (∀ g, (∀ x, k < x → g x = f x) → q g = false) → cols c q k f = 0
  | 0, f, h => by rw [cols, h f fun _ _ => rfl]; rfl
  | k + 1, f, h => by
    refine sumN_nil _ fun d _ => cols_none k _ fun g hg => h g fun x hx => ?_
    rw [hg x (by omega)]; unfold updF; rw [if_neg (by omega)]

/-- What R joins has one colour. -/
def fitB (n : Nat) (R g : Nat → Nat) : Bool := (List.range n).all fun i => (List.range n).all fun j => !decide (R (i + 1) = R (j + 1)) || decide (g (i + 1) = g (j + 1))
theorem fitB_iff {n : Nat} {R g : Nat → Nat} : fitB n R g = true ↔ ∀ x y, 1 ≤ x → x ≤ n → 1 ≤ y → y ≤ n → R x = R y → g x = g y := by
  simp only [fitB, List.all_eq_true, List.mem_range, Bool.or_eq_true, Bool.not_eq_true', decide_eq_true_eq, decide_eq_false_iff_not]
  constructor
  · intro h x y h1 h2 h3 h4 e
    have := h (x - 1) (by omega) (y - 1) (by omega)
    rw [show x - 1 + 1 = x by omega, show y - 1 + 1 = y by omega] at this
    rcases this with h5 | h5
    · exact absurd e h5
    · exact h5
  · intro h i hi j hj
    by_cases e : R (i + 1) = R (j + 1)
    · exact .inr (h _ _ (by omega) (by omega) (by omega) (by omega) e)
    · exact .inl e
/-- The last node of 1..k that R joins with x; or x. -/
def lastR (R : Nat → Nat) : Nat → Nat → Nat
  | 0, x => x
  | k + 1, x => if R (k + 1) = R x then k + 1 else lastR R k x
theorem lastR_joins (R : Nat → Nat) (x : Nat) : ∀ k, R (lastR R k x) = R x
  | 0 => rfl
  | k + 1 => by
    simp only [lastR]
    split
    · assumption
    · exact lastR_joins R x k
theorem lastR_le (R : Nat → Nat) (x : Nat) : ∀ k, x ≤ k → x ≤ lastR R k x ∧ lastR R k x ≤ k
  | 0, h => by simp [lastR]; omega
  | k + 1, h => by
    simp only [lastR]
    split
    · omega
    · rename_i h1
      have : x ≠ k + 1 := fun e => h1 (by rw [e])
      have := lastR_le R x k (by omega)
      omega
theorem lastR_ker (R : Nat → Nat) {x y : Nat} (h : R x = R y) : ∀ k, x ≤ k → y ≤ k → lastR R k x = lastR R k y
  | 0, h1, h2 => by simp [lastR]; omega
  | k + 1, h1, h2 => by
    simp only [lastR, h]
    split
    · rfl
    · rename_i h3
      have : x ≠ k + 1 := fun e => h3 (by rw [← h, e])
      have : y ≠ k + 1 := fun e => h3 (by rw [e])
      exact lastR_ker R h k (by omega) (by omega)
theorem cols_fit (c n : Nat) (R : Nat → Nat) : ∀ k, k ≤ n → ∀ f, (∀ x y, k < x → x ≤ n → k < y → y ≤ n → R x = R y → f x = f y) → (∀ x, k < x → x ≤ n → f x < c) →
    cols c (fitB n R) k f = c ^ cnt (lastR R n) k
  | 0, _, f, h, _ => by
    rw [cols, fitB_iff.2 fun x y h1 h2 h3 h4 => h x y (by omega) h2 (by omega) h4]; rfl
  | k + 1, hk, f, h, hf => by
    simp only [cols, cnt]
    have hl := lastR_le R (k + 1) n hk
    by_cases e : lastR R n (k + 1) = k + 1
    · rw [if_pos e, Nat.pow_succ]
      rw [sumN_congr (g := fun _ => c ^ cnt (lastR R n) k) c ?_, sumN_const]
      intro d hd
      have hne : ∀ x, k + 1 < x → x ≤ n → R x ≠ R (k + 1) := fun x h1 h2 h3 => by
        have h4 := lastR_ker R h3 n h2 hk
        have h5 := lastR_le R x n h2
        omega
      refine cols_fit c n R k (by omega) _ ?_ ?_
      · intro x y h1 h2 h3 h4 h5
        unfold updF
        by_cases ex : x = k + 1
        · by_cases ey : y = k + 1
          · rw [if_pos ex, if_pos ey]
          · exact absurd (ex ▸ h5.symm) (hne y (by omega) h4)
        · by_cases ey : y = k + 1
          · exact absurd (ey ▸ h5) (hne x (by omega) h2)
          · rw [if_neg ex, if_neg ey]; exact h x y (by omega) h2 (by omega) h4 h5
      · intro x h1 h2
        unfold updF; split
        · exact hd
        · exact hf x (by omega) h2
    · rw [if_neg e, Nat.add_zero]
      have hj := lastR_joins R (k + 1) n
      generalize hz : lastR R n (k + 1) = z at *
      refine sumN_one (i := f z) _ c (hf z (by omega) (by omega)) ?_ ?_
      · refine cols_fit c n R k (by omega) _ ?_ ?_
        · intro x y h1 h2 h3 h4 h5
          unfold updF
          by_cases ex : x = k + 1
          · by_cases ey : y = k + 1
            · rw [if_pos ex, if_pos ey]
            · rw [if_pos ex, if_neg ey]; exact h z y (by omega) (by omega) (by omega) h4 (by rw [hj, ← ex, h5])
          · by_cases ey : y = k + 1
            · rw [if_neg ex, if_pos ey]; exact h x z (by omega) h2 (by omega) (by omega) (by rw [hj, ← ey, h5])
            · rw [if_neg ex, if_neg ey]; exact h x y (by omega) h2 (by omega) h4 h5
        · intro x h1 h2
          unfold updF; split
          · exact hf z (by omega) (by omega)
          · exact hf x (by omega) h2
      · intro d hd hne
        refine cols_none k _ fun g hg => ?_
        rw [← Bool.not_eq_true, fitB_iff]
        intro hfit
        have h1 := hfit z (k + 1) (by omega) (by omega) (by omega) hk hj
        rw [hg z (by omega), hg (k + 1) (by omega)] at h1
        unfold updF at h1
        rw [if_neg (by omega), if_pos rfl] at h1
        exact hne h1.symm
theorem cols_good {c n : Nat} {R : Nat → Nat} (hg : Good n R) (f : Nat → Nat) : cols c (fitB n R) n f = c ^ cnt R n := by
  rw [cols_fit c n R n (Nat.le_refl _) f (fun x y h1 h2 => by omega) (fun x h1 h2 => by omega)]
  congr 1
  refine Nat.le_antisymm ?_ ?_
  · exact cnt_anti hg.idem hg.range fun x y _ h2 _ h4 e => lastR_ker R e n h2 h4
  · rw [cnt_congr (R := lastR R n) (R' := fun x => if x ≤ n then lastR R n x else x) n (fun x _ h2 => by rw [if_pos h2])]
    refine cnt_anti ?_ ?_ ?_
    · intro x
      by_cases h : x ≤ n
      · have h1 := lastR_le R x n h
        rw [if_pos h, if_pos h1.2]
        exact lastR_ker R (lastR_joins R x n) n h1.2 h
      · rw [if_neg h, if_neg h]
    · intro x h1 h2
      have := lastR_le R x n h2
      rw [if_pos h2]; omega
    · intro x y _ h2 _ h4 e
      rw [if_pos h2, if_pos h4] at e
      have h5 := lastR_joins R x n
      rw [e, lastR_joins R y n] at h5
      exact h5.symm

def propB (es : List (Nat × Nat)) (g : Nat → Nat) : Bool := es.all fun e => !decide (g e.1 = g e.2)
theorem fit_glue {n : Nat} {R g : Nat → Nat} {a b : Nat} (ha : 1 ≤ a ∧ a ≤ n) (hb : 1 ≤ b ∧ b ≤ n) : fitB n (glue R a b) g = (fitB n R g && decide (g a = g b)) := by
  rw [Bool.eq_iff_iff, Bool.and_eq_true, fitB_iff, fitB_iff, decide_eq_true_eq]
  constructor
  · intro h
    refine ⟨fun x y h1 h2 h3 h4 e => h x y h1 h2 h3 h4 (glue_kept e a b), h a b ha.1 ha.2 hb.1 hb.2 (by rw [glue_self, glue_other])⟩
  · rintro ⟨h, hab⟩ x y h1 h2 h3 h4 e
    have to : ∀ z, 1 ≤ z → z ≤ n → (R z = R a ∨ R z = R b) → g z = g a := fun z hz hz' o => by
      rcases o with o | o
      · exact h z a hz hz' ha.1 ha.2 o
      · exact (h z b hz hz' hb.1 hb.2 o).trans hab.symm
    rcases (glue_eq R a b x y).1 e with h5 | ⟨h5, h6⟩
    · exact h x y h1 h2 h3 h4 h5
    · exact (to x h1 h2 h5).trans (to y h3 h4 h6).symm
/-- Paintings that fit R, with both ends of each edge different. -/
def paintR (c n : Nat) (R : Nat → Nat) (es : List (Nat × Nat)) (f : Nat → Nat) : Nat := cols c (fun g => fitB n R g && propB es g) n f
theorem three_way (u p v : Bool) : (if (u && v) = true then 1 else 0) = (if (u && (!p && v)) = true then 1 else 0) + if (u && p && v) = true then 1 else 0 := by
  cases u <;> cases p <;> cases v <;> rfl
theorem paint_step (c n : Nat) (R : Nat → Nat) (e : Nat × Nat) (es : List (Nat × Nat)) (f : Nat → Nat) (ha : 1 ≤ e.1 ∧ e.1 ≤ n) (hb : 1 ≤ e.2 ∧ e.2 ≤ n) :
    paintR c n R es f = paintR c n R (e :: es) f + paintR c n (glue R e.1 e.2) es f := by
  unfold paintR
  refine cols_add (fun g => ?_) n f
  rw [fit_glue ha hb]
  simp only [propB, List.all_cons]
  exact three_way _ _ _
theorem fit_ker {n : Nat} {R R' : Nat → Nat} (h : Ker R R') (g : Nat → Nat) : fitB n R g = fitB n R' g := by
  rw [Bool.eq_iff_iff, fitB_iff, fitB_iff]
  constructor
  · intro hh x y h1 h2 h3 h4 e; exact hh x y h1 h2 h3 h4 ((h x y).2 e)
  · intro hh x y h1 h2 h3 h4 e; exact hh x y h1 h2 h3 h4 ((h x y).1 e)
theorem paint_ker (c n : Nat) {R R' : Nat → Nat} (h : Ker R R') (es : List (Nat × Nat)) (f : Nat → Nat) : paintR c n R es f = paintR c n R' es f := by
  unfold paintR
  congr 1
  funext g
  rw [fit_ker h]
/-- A number taken as often times itself as there are pieces, by turns added and taken away. -/
def paintLeaf (x : Int) (n : Nat) (t r : Nat) : Int := sgn t (x ^ (n - r))
theorem paint_tut (c n : Nat) (f : Nat → Nat) : ∀ (es : List (Nat × Nat)) (R : Nat → Nat) (t r : Nat), EdgesOk n es → Good n R → cnt R n + r = n →
    (paintR c n R es f : Int) = sgn t (tut (paintLeaf c n) es R t r)
  | [], R, t, r, _, hg, hr => by
    have : paintR c n R [] f = c ^ cnt R n := by
      rw [← cols_good hg f]; unfold paintR propB
      simp
    rw [this, tut, paintLeaf, sgn_sgn, show n - r = cnt R n by omega, Int.natCast_pow]
  | e :: es, R, t, r, he, hg, hr => by
    have he' : EdgesOk n es := fun x hx => he x (by simp [hx])
    have hee := he e (by simp)
    have h0 := paint_step c n R e es f hee.1 hee.2
    have h1 := paint_tut c n f es R t r he' hg hr
    have h2 := cnt_glue (a := e.1) hg.idem hg.range hee.2
    by_cases hj : R e.1 = R e.2
    · have h3 := paint_tut c n f es R (t + 1) r he' hg hr
      rw [paint_ker c n (Ker.joined hj)] at h0
      rw [tut_loop _ hj, sgn_add, ← h1]
      rw [sgn_succ] at h3
      omega
    · rw [if_neg hj] at h2
      have h3 := paint_tut c n f es (glue R e.1 e.2) (t + 1) (r + 1) he' (hg.glue hee.1) (by omega)
      rw [tut_join _ hj, sgn_add, ← h1]
      rw [sgn_succ] at h3
      omega
/-- The paintings by numbers. -/
def paintN (c n : Nat) (es : List (Nat × Nat)) : Nat := (List.range (c ^ n)).countP fun w => es.all fun e => !decide (dig c w e.1 = dig c w e.2)
theorem paintN_cols {c n : Nat} {es : List (Nat × Nat)} (he : EdgesOk n es) : paintN c n es = paintR c n (fun x => x) es (fun _ => 0) := by
  unfold paintR
  rw [← cols_count]
  unfold paintN
  refine countP_same fun w _ => ?_
  have h1 : fitB n (fun x => x) (ext c w n fun _ => 0) = true := fitB_iff.2 fun x y _ _ _ _ e => by rw [show x = y from e]
  rw [h1, Bool.true_and]
  unfold propB
  rw [Bool.eq_iff_iff, List.all_eq_true, List.all_eq_true]
  constructor
  · intro h e hx
    have h2 := he e hx
    unfold ext
    rw [if_pos ⟨h2.1.1, h2.1.2⟩, if_pos ⟨h2.2.1, h2.2.2⟩]; exact h e hx
  · intro h e hx
    have h2 := he e hx
    have := h e hx
    unfold ext at this
    rwa [if_pos ⟨h2.1.1, h2.1.2⟩, if_pos ⟨h2.2.1, h2.2.2⟩] at this
theorem paintN_tut {c n : Nat} {es : List (Nat × Nat)} (he : EdgesOk n es) : (paintN c n es : Int) = tut (paintLeaf c n) es (fun x => x) 0 0 := by
  rw [paintN_cols he, paint_tut c n _ es (fun x => x) 0 0 he ⟨fun _ => rfl, fun _ h1 h2 => ⟨h1, h2⟩⟩ (by rw [cnt_id fun _ => rfl]; omega), sgn_zero]
theorem paintN_more {c n : Nat} {es : List (Nat × Nat)} (he : EdgesOk n es) : paintN c n es ≤ paintN (c + 1) n es := by
  rw [paintN_cols he, paintN_cols he]; exact cols_more c _ n _
/-- An edge that alone has its ends: without it, less with its ends made one. -/
theorem paint_split (x : Int) {n : Nat} {g : Nat × Nat} (hg : 1 ≤ g.1 ∧ g.1 < g.2 ∧ g.2 ≤ n) {l1 l2 : List (Nat × Nat)} (he : EdgesOk n (l1 ++ l2)) :
    tut (paintLeaf x n) (l1 ++ g :: l2) (fun x => x) 0 0 = tut (paintLeaf x n) (l1 ++ l2) (fun x => x) 0 0 - tut (paintLeaf x (n - 1)) ((l1 ++ l2).map (mmN (renN g))) (fun x => x) 0 0 := by
  rw [tut_move, tut_join _ (show (fun x : Nat => x) g.1 ≠ (fun x : Nat => x) g.2 by simp only; omega), tut_made _ hg _ he]
  rw [tut_leaf (leaf := paintLeaf x n) (leaf' := paintLeaf x (n - 1)) (c := -1) _ _ (0 + 1) (0 + 1) 0 0]
  · omega
  · intro a b
    unfold paintLeaf
    rw [show 0 + 1 + a = 0 + a + 1 by omega, sgn_succ, show n - (0 + 1 + b) = n - 1 - (0 + b) by omega]
    omega
end Go.Proofs.Ytgacgaidlbkkmaa
