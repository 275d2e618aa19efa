/- Plain facts on arrows: one comes back exactly if no numbers rise along all arrows; how many arrows lead never back is told by the sum over all choices of edges. -/
import Derived.Test.YtgacgaidlbkkmaaPaint
namespace Go.Proofs.Ytgacgaidlbkkmaa
set_option maxRecDepth 100000

/-- h rises along each arrow: from the first end to the second, or back where T says so. -/
def risesL : List (Nat × Nat) → (Nat → Bool) → (Nat → Nat) → Prop
  | [], _, _ => True
  | e :: es, T, h => (if T 0 = true then h e.2 < h e.1 else h e.1 < h e.2) ∧ risesL es (fun i => T (i + 1)) h
/-- Some numbers, the same for what R joins, rise along each arrow. -/
def Rkd (R : Nat → Nat) (es : List (Nat × Nat)) (T : Nat → Bool) : Prop := ∃ h : Nat → Nat, Sub R h ∧ risesL es T h
theorem risesL_mono {h h' : Nat → Nat} (hh : ∀ x y, h x < h y → h' x < h' y) : ∀ (es : List (Nat × Nat)) (T : Nat → Bool), risesL es T h → risesL es T h'
  | [], _, _ => trivial
  | e :: es, T, ⟨h1, h2⟩ => by
    refine ⟨?_, risesL_mono hh es _ h2⟩
    split
    · rename_i ht; rw [if_pos ht] at h1; exact hh _ _ h1
    · rename_i ht; rw [if_neg ht] at h1; exact hh _ _ h1
theorem risesL_two {h1 h2 h : Nat → Nat} (hh : ∀ x y, h1 x < h1 y → h2 x < h2 y → h x < h y) : ∀ (es : List (Nat × Nat)) (T : Nat → Bool), risesL es T h1 → risesL es T h2 → risesL es T h
  | [], _, _, _ => trivial
  | e :: es, T, ⟨a1, a2⟩, ⟨b1, b2⟩ => by
    refine ⟨?_, risesL_two hh es _ a2 b2⟩
    split
    · rename_i ht; rw [if_pos ht] at a1 b1; exact hh _ _ a1 b1
    · rename_i ht; rw [if_neg ht] at a1 b1; exact hh _ _ a1 b1
/-- All but the nodes that R joins with b, and these one higher. -/
theorem rise_b {R h : Nat → Nat} {a b : Nat} (hs : Sub R h) (hab : R a ≠ R b) (he : h a = h b) {es : List (Nat × Nat)} {T : Nat → Bool} (hr : risesL es T h) :
    ∃ h', Sub R h' ∧ h' a < h' b ∧ risesL es T h' := by
  refine ⟨fun x => 2 * h x + if R x = R b then 1 else 0, fun x y hxy => ?_, ?_, risesL_mono (fun x y hxy => ?_) es T hr⟩
  · simp only [hs x y hxy, hxy]
  · simp only [if_neg hab, if_true, he]; omega
  · show 2 * h x + (if R x = R b then 1 else 0) < 2 * h y + (if R y = R b then 1 else 0)
    split <;> split <;> omega
theorem rkd_glue {R : Nat → Nat} {a b : Nat} {es : List (Nat × Nat)} {T : Nat → Bool} (hab : R a ≠ R b) :
    ((∃ h, Sub R h ∧ h a < h b ∧ risesL es T h) ∧ ∃ h, Sub R h ∧ h b < h a ∧ risesL es T h) ↔ Rkd (glue R a b) es T := by
  constructor
  · rintro ⟨⟨h1, s1, l1, r1⟩, h2, s2, l2, r2⟩
    obtain ⟨p, hp⟩ : ∃ p, h1 b = h1 a + p := ⟨h1 b - h1 a, by omega⟩
    obtain ⟨q, hq⟩ : ∃ q, h2 a = h2 b + q := ⟨h2 a - h2 b, by omega⟩
    have hp0 : 0 < p := by omega
    have hq0 : 0 < q := by omega
    refine ⟨fun x => q * h1 x + p * h2 x, Sub.glue (fun x y hxy => ?_) ?_, risesL_two (fun x y hx hy => ?_) es T r1 r2⟩
    · simp only [s1 x y hxy, s2 x y hxy]
    · simp only [hp, hq, Nat.mul_add, Nat.mul_comm p q]; omega
    · have e1 := (Nat.mul_lt_mul_left hq0).2 hx
      have e2 := (Nat.mul_lt_mul_left hp0).2 hy
      show q * h1 x + p * h2 x < q * h1 y + p * h2 y
      omega
  · rintro ⟨h, s, r⟩
    have s' : Sub R h := fun x y hxy => s x y (glue_kept hxy a b)
    have e : h a = h b := s a b (by rw [glue_self, glue_other])
    obtain ⟨h1, a1, b1, c1⟩ := rise_b s' hab e r
    obtain ⟨h2, a2, b2, c2⟩ := rise_b s' (fun e => hab e.symm) e.symm r
    exact ⟨⟨h1, a1, b1, c1⟩, h2, a2, b2, c2⟩
theorem rkd_either {R : Nat → Nat} {a b : Nat} {es : List (Nat × Nat)} {T : Nat → Bool} (hab : R a ≠ R b) :
    ((∃ h, Sub R h ∧ h a < h b ∧ risesL es T h) ∨ ∃ h, Sub R h ∧ h b < h a ∧ risesL es T h) ↔ Rkd R es T := by
  constructor
  · rintro (⟨h, s, _, r⟩ | ⟨h, s, _, r⟩) <;> exact ⟨h, s, r⟩
  · rintro ⟨h, s, r⟩
    rcases Nat.lt_trichotomy (h a) (h b) with l | e | l
    · exact .inl ⟨h, s, l, r⟩
    · exact .inl (rise_b s hab e r)
    · exact .inr ⟨h, s, l, r⟩
theorem rkd_cons (R : Nat → Nat) (e : Nat × Nat) (es : List (Nat × Nat)) (T : Nat → Bool) : Rkd R (e :: es) T ↔ ∃ h, Sub R h ∧ (if T 0 = true then h e.2 < h e.1 else h e.1 < h e.2) ∧ risesL es (fun i => T (i + 1)) h := Iff.rfl
theorem rkd_ker {R R' : Nat → Nat} (h : Ker R R') (es : List (Nat × Nat)) (T : Nat → Bool) : Rkd R es T ↔ Rkd R' es T :=
  ⟨fun ⟨k, s, r⟩ => ⟨k, fun x y e => s x y ((h x y).2 e), r⟩, fun ⟨k, s, r⟩ => ⟨k, fun x y e => s x y ((h x y).1 e), r⟩⟩
noncomputable def rkB (R : Nat → Nat) (es : List (Nat × Nat)) (T : Nat → Bool) : Bool := @decide (Rkd R es T) (Classical.propDecidable _)
theorem rkB_iff {R : Nat → Nat} {es : List (Nat × Nat)} {T : Nat → Bool} : rkB R es T = true ↔ Rkd R es T := by unfold rkB; exact @decide_eq_true_iff _ (Classical.propDecidable _)
theorem rkB_of {R : Nat → Nat} {es : List (Nat × Nat)} {T : Nat → Bool} {b : Bool} (h : b = true ↔ Rkd R es T) : rkB R es T = b := by rw [Bool.eq_iff_iff, rkB_iff, h]
/-- How many arrows never lead back, if R is made one. -/
noncomputable def acyN (R : Nat → Nat) (es : List (Nat × Nat)) : Nat := (List.range (2 ^ es.length)).countP fun s => rkB R es fun i => s.testBit i
theorem countP_duo {q1 q2 q3 q4 : Nat → Bool} {n : Nat} (h : ∀ s, s < n → (if q1 s = true then 1 else 0) + (if q2 s = true then 1 else 0) = (if q3 s = true then 1 else 0) + if q4 s = true then 1 else 0) :
    (List.range n).countP q1 + (List.range n).countP q2 = (List.range n).countP q3 + (List.range n).countP q4 := by
  induction n with
  | zero => rfl
  | succ n ih =>
    have h1 := ih fun s hs => h s (by omega)
    have h2 := h n (by omega)
    simp only [List.range_succ, List.countP_append, List.countP_cons, List.countP_nil]
    omega
theorem bits_even (s : Nat) : (fun i => (2 * s).testBit (i + 1)) = fun i => s.testBit i := by funext i; exact bit_even s i
theorem bits_odd (s : Nat) : (fun i => (2 * s + 1).testBit (i + 1)) = fun i => s.testBit i := by funext i; exact bit_odd s i
theorem first_even (s : Nat) : (2 * s).testBit 0 = false := by simp
theorem first_odd (s : Nat) : (2 * s + 1).testBit 0 = true := by simp [Nat.testBit_zero]
theorem four_way {F G A C : Bool} (h1 : (F = true ∧ G = true) ↔ C = true) (h2 : (F = true ∨ G = true) ↔ A = true) :
    (if F = true then 1 else 0) + (if G = true then 1 else 0) = (if A = true then 1 else 0) + if C = true then 1 else 0 := by
  cases F <;> cases G <;> cases A <;> cases C <;> simp_all
theorem acy_join {R : Nat → Nat} {e : Nat × Nat} (es : List (Nat × Nat)) (h : R e.1 ≠ R e.2) : acyN R (e :: es) = acyN R es + acyN (glue R e.1 e.2) es := by
  unfold acyN
  rw [List.length_cons, Nat.pow_succ, Nat.mul_comm, countP_double]
  refine countP_duo fun s _ => four_way ?_ ?_
  · rw [rkB_iff, rkB_iff, rkB_iff, rkd_cons, rkd_cons, bits_even, bits_odd, first_even, first_odd, ← rkd_glue h]
    simp
  · rw [rkB_iff, rkB_iff, rkB_iff, rkd_cons, rkd_cons, bits_even, bits_odd, first_even, first_odd, ← rkd_either h]
    simp
theorem acy_loop {R : Nat → Nat} {e : Nat × Nat} (es : List (Nat × Nat)) (h : R e.1 = R e.2) : acyN R (e :: es) = 0 := by
  unfold acyN
  rw [List.countP_eq_zero]
  intro s _
  rw [rkB_iff]
  rintro ⟨k, sb, r, _⟩
  have := sb _ _ h
  split at r <;> omega
def arrLeaf (t r : Nat) : Int := sgn (t + r) 1
theorem arrLeaf_next (t r : Nat) : arrLeaf (t + 1) r = - arrLeaf t r := by unfold arrLeaf; rw [show t + 1 + r = t + r + 1 by omega, sgn_succ]
theorem arrLeaf_both (t r : Nat) : arrLeaf (t + 1) (r + 1) = arrLeaf t r := by unfold arrLeaf; rw [show t + 1 + (r + 1) = t + r + 1 + 1 by omega, sgn_succ, sgn_succ]; omega
theorem acy_ker {R R' : Nat → Nat} (h : Ker R R') (es : List (Nat × Nat)) : acyN R es = acyN R' es := by
  unfold acyN
  refine countP_same fun s _ => ?_
  rw [Bool.eq_iff_iff, rkB_iff, rkB_iff, rkd_ker h]
theorem tut_arr_next (es : List (Nat × Nat)) (R : Nat → Nat) (t r : Nat) : tut arrLeaf es R (t + 1) r = - tut arrLeaf es R t r := by
  rw [tut_leaf (leaf := arrLeaf) (leaf' := arrLeaf) (c := -1) es R (t + 1) r t r fun a b => by rw [show t + 1 + a = t + a + 1 by omega, arrLeaf_next]; omega]
  omega
theorem tut_arr_both (es : List (Nat × Nat)) (R : Nat → Nat) (t r : Nat) : tut arrLeaf es R (t + 1) (r + 1) = tut arrLeaf es R t r := by
  rw [tut_leaf (leaf := arrLeaf) (leaf' := arrLeaf) (c := 1) es R (t + 1) (r + 1) t r fun a b => by rw [show t + 1 + a = t + a + 1 by omega, show r + 1 + b = r + b + 1 by omega, arrLeaf_both]; omega]
  omega
theorem acy_tut : ∀ (es : List (Nat × Nat)) (R : Nat → Nat), (acyN R es : Int) = tut arrLeaf es R 0 0
  | [], R => by
    have : acyN R [] = 1 := by
      unfold acyN
      rw [List.length_nil, Nat.pow_zero, List.range_one, List.countP_cons, List.countP_nil, rkB_iff.2 ⟨fun _ => 0, fun _ _ _ => rfl, show risesL [] _ _ from trivial⟩]; rfl
    rw [this]; rfl
  | e :: es, R => by
    by_cases h : R e.1 = R e.2
    · rw [acy_loop es h, tut_loop _ h, tut_arr_next]; omega
    · rw [acy_join es h, tut_join _ h, tut_arr_both, Int.natCast_add, acy_tut es, acy_tut es]
theorem arr_odd (t r : Nat) : ∃ k, arrLeaf t r = 1 + 2 * k := by
  unfold arrLeaf sgn
  split
  · exact ⟨0, by omega⟩
  · exact ⟨-1, by omega⟩
theorem tut_arr_pow : ∀ (es : List (Nat × Nat)) (R : Nat → Nat) (t r : Nat), ∃ k : Int, tut arrLeaf es R t r = ((2 ^ es.length : Nat) : Int) + 2 * k
  | [], _, t, r => arr_odd t r
  | e :: es, R, t, r => by
    obtain ⟨k, hk⟩ := tut_arr_pow es R t r
    simp only [tut]
    split
    · obtain ⟨j, hj⟩ := tut_arr_pow es R (t + 1) r
      exact ⟨k + j, by rw [hk, hj, List.length_cons, Nat.pow_succ]; omega⟩
    · obtain ⟨j, hj⟩ := tut_arr_pow es (glue R e.1 e.2) (t + 1) (r + 1)
      exact ⟨k + j, by rw [hk, hj, List.length_cons, Nat.pow_succ]; omega⟩
theorem acy_even {es : List (Nat × Nat)} (R : Nat → Nat) (h : 0 < es.length) : acyN R es % 2 = 0 := by
  obtain ⟨k, hk⟩ := tut_arr_pow es R 0 0
  rw [← acy_tut] at hk
  obtain ⟨l, hl⟩ : ∃ l, es.length = l + 1 := ⟨es.length - 1, by omega⟩
  rw [hl, Nat.pow_succ] at hk
  omega
theorem acy_none (R : Nat → Nat) : acyN R [] = 1 := by have := acy_tut [] R; simp only [tut, arrLeaf, Nat.add_zero, sgn_zero] at this; omega
/-- An edge that alone has its ends: without it, and with its ends made one. -/
theorem acy_split {n : Nat} {g : Nat × Nat} (hg : 1 ≤ g.1 ∧ g.1 < g.2 ∧ g.2 ≤ n) {l1 l2 : List (Nat × Nat)} (he : EdgesOk n (l1 ++ l2)) :
    acyN (fun x => x) (l1 ++ g :: l2) = acyN (fun x => x) (l1 ++ l2) + acyN (fun x => x) ((l1 ++ l2).map (mmN (renN g))) := by
  have h1 := acy_tut (l1 ++ g :: l2) fun x => x
  rw [tut_move, tut_join _ (show (fun x : Nat => x) g.1 ≠ (fun x : Nat => x) g.2 by simp only; omega), tut_made _ hg _ he, tut_arr_both, ← acy_tut, ← acy_tut] at h1
  omega
theorem tut_le {leaf leaf' : Nat → Nat → Int} {c : Int} {n : Nat} (hn : 1 ≤ n) (h : ∀ t r, r < n → leaf t r = c * leaf' t r) : ∀ (es : List (Nat × Nat)) (R : Nat → Nat) (t r : Nat), EdgesOk n es → Good n R → cnt R n + r = n →
    tut leaf es R t r = c * tut leaf' es R t r
  | [], R, t, r, _, hg, hr => h t r (by have := hg.pos hn; omega)
  | e :: es, R, t, r, he, hg, hr => by
    have he' : EdgesOk n es := fun x hx => he x (by simp [hx])
    have hee := he e (by simp)
    have h2 := cnt_glue (a := e.1) hg.idem hg.range hee.2
    by_cases hj : R e.1 = R e.2
    · rw [tut_loop _ hj, tut_loop _ hj, Int.mul_add, tut_le hn h es R t r he' hg hr, tut_le hn h es R (t + 1) r he' hg hr]
    · rw [if_neg hj] at h2
      rw [tut_join _ hj, tut_join _ hj, Int.mul_add, tut_le hn h es R t r he' hg hr, tut_le hn h es _ (t + 1) (r + 1) he' (hg.glue hee.1) (by omega)]
theorem sgn_mul (t : Nat) (x : Int) : sgn t x = sgn t 1 * x := by unfold sgn; split <;> omega
theorem sgn_pow (k : Nat) : (-1 : Int) ^ k = sgn k 1 := by
  induction k with
  | zero => rfl
  | succ k ih => rw [Int.pow_succ, ih, sgn_succ]; omega
theorem sgn_both (a b : Nat) (x : Int) : sgn a (sgn b x) = sgn (a + b) x := by
  unfold sgn
  by_cases h1 : a % 2 = 0 <;> by_cases h2 : b % 2 = 0
  · rw [if_pos h1, if_pos h2, if_pos (by omega)]
  · rw [if_pos h1, if_neg h2, if_neg (by omega)]
  · rw [if_neg h1, if_pos h2, if_neg (by omega)]
  · rw [if_neg h1, if_neg h2, if_pos (by omega)]; omega
theorem sgn_par {a b : Nat} (h : a % 2 = b % 2) (x : Int) : sgn a x = sgn b x := by unfold sgn; rw [h]
theorem start_cnt (n : Nat) : cnt (fun x => x) n + 0 = n := by rw [cnt_id fun _ => rfl]; omega
theorem good_start (n : Nat) : Good n fun x => x := ⟨fun _ => rfl, fun _ h1 h2 => ⟨h1, h2⟩⟩
/-- Of minus 1 it is how many arrows never lead back, with the sign of the nodes. -/
theorem paint_minus {n : Nat} (hn : 1 ≤ n) {es : List (Nat × Nat)} (he : EdgesOk n es) : sgn n (tut (paintLeaf (-1) n) es (fun x => x) 0 0) = (acyN (fun x => x) es : Int) := by
  rw [acy_tut, tut_le (leaf := paintLeaf (-1) n) (leaf' := arrLeaf) (c := sgn n 1) hn ?_ es _ 0 0 he (good_start n) (start_cnt n), ← sgn_mul, sgn_both, sgn_par (show (n + n) % 2 = 0 % 2 by omega), sgn_zero]
  intro t r hr
  unfold paintLeaf arrLeaf
  rw [sgn_pow, sgn_both, ← sgn_mul, sgn_both]
  exact sgn_par (by omega) 1
theorem paint_none {n : Nat} (hn : 1 ≤ n) {es : List (Nat × Nat)} (he : EdgesOk n es) : tut (paintLeaf 0 n) es (fun x => x) 0 0 = 0 := by
  rw [tut_le (leaf := paintLeaf 0 n) (leaf' := arrLeaf) (c := 0) hn ?_ es _ 0 0 he (good_start n) (start_cnt n), Int.zero_mul]
  intro t r hr
  unfold paintLeaf
  obtain ⟨k, hk⟩ : ∃ k, n - r = k + 1 := ⟨n - r - 1, by omega⟩
  rw [hk, Int.pow_succ, Int.mul_zero, Int.zero_mul]
  unfold sgn; split <;> rfl
theorem paint_one (n : Nat) : ∀ (es : List (Nat × Nat)) (R : Nat → Nat) (t r : Nat), tut (paintLeaf 1 n) es R t r = if es.length = 0 then sgn t 1 else 0
  | [], R, t, r => by simp [tut, paintLeaf, Int.one_pow]
  | e :: es, R, t, r => by
    have hh : ∀ R' r', tut (paintLeaf 1 n) es R t r + tut (paintLeaf 1 n) es R' (t + 1) r' = 0 := fun R' r' => by
      rw [paint_one n es, paint_one n es]
      split
      · rw [sgn_succ]; omega
      · rfl
    simp only [tut, List.length_cons]
    rw [if_neg (show ¬ es.length + 1 = 0 by omega)]
    split <;> exact hh _ _
end Go.Proofs.Ytgacgaidlbkkmaa
