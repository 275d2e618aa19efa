/- Plain facts on flows: they are counted by numbers in a base, and told by the sum over all choices of edges. -/
import Derived.Test.YtgacgaidlbkkmaaArrows
namespace Go.Proofs.Ytgacgaidlbkkmaa
set_option maxRecDepth 100000

/-- The sum over the nodes that R joins with v. -/
def clsum (n : Nat) (R : Nat → Nat) (f : Nat → Int) (v : Nat) : Int := sumS (fun i => if R (i + 1) = R v then f (i + 1) else 0) n
def balB (m n : Nat) (R : Nat → Nat) (f : Nat → Int) : Bool := (List.range n).all fun i => decide (clsum n R f (i + 1) % (m : Int) = 0)
/-- d more flows from a to b. -/
def addF (f : Nat → Int) (e : Nat × Nat) (d : Nat) (x : Nat) : Int := f x + (if x = e.1 then (d : Int) else 0) - if x = e.2 then (d : Int) else 0
/-- In how many ways the edges may be given numbers from 1 on, so that all is even out. -/
def flN (m n : Nat) (R : Nat → Nat) : List (Nat × Nat) → (Nat → Int) → Nat
  | [], f => if balB m n R f = true then 1 else 0
  | e :: es, f => sumN (fun d => flN m n R es (addF f e (d + 1))) (m - 1)

theorem sumS_add (f g : Nat → Int) : ∀ n, sumS (fun k => f k + g k) n = sumS f n + sumS g n
  | 0 => rfl
  | n + 1 => by simp only [sumS, sumS_add f g n]; omega
theorem sumS_zero {f : Nat → Int} : ∀ n, (∀ k, k < n → f k = 0) → sumS f n = 0
  | 0, _ => rfl
  | n + 1, h => by simp only [sumS, sumS_zero n (fun k hk => h k (by omega)), h n (by omega)]; rfl
theorem sumS_one {f : Nat → Int} {i : Nat} : ∀ n, i < n → (∀ k, k < n → k ≠ i → f k = 0) → sumS f n = f i
  | 0, h, _ => by omega
  | n + 1, h, h2 => by
    simp only [sumS]
    by_cases e : i = n
    · subst e; rw [sumS_zero i fun k hk => h2 k (by omega) (by omega)]; omega
    · rw [sumS_one n (by omega) fun k hk => h2 k (by omega), h2 n (by omega) (by omega)]; omega
theorem clsum_id {n : Nat} {f : Nat → Int} {v : Nat} (h : 1 ≤ v ∧ v ≤ n) : clsum n (fun x => x) f v = f v := by
  unfold clsum
  rw [sumS_one (i := v - 1) n (by omega) fun k hk hne => if_neg (show ¬ k + 1 = v by omega)]
  rw [if_pos (show v - 1 + 1 = v by omega), show v - 1 + 1 = v by omega]
theorem clsum_point {n : Nat} (R : Nat → Nat) {a : Nat} (ha : 1 ≤ a ∧ a ≤ n) (d : Int) (v : Nat) : clsum n R (fun x => if x = a then d else 0) v = if R a = R v then d else 0 := by
  unfold clsum
  rw [sumS_one (i := a - 1) n (by omega) fun k hk hne => by simp only [if_neg (show ¬ k + 1 = a by omega)]; split <;> rfl]
  simp only [show a - 1 + 1 = a by omega, if_true]
theorem clsum_sum (n : Nat) (R : Nat → Nat) (f g : Nat → Int) (v : Nat) : clsum n R (fun x => f x + g x) v = clsum n R f v + clsum n R g v := by
  unfold clsum
  rw [← sumS_add]
  refine sumS_congr _ fun k _ => ?_
  show (if R (k + 1) = R v then f (k + 1) + g (k + 1) else 0) = _
  split <;> omega
theorem clsum_addF {n : Nat} (R : Nat → Nat) (f : Nat → Int) {e : Nat × Nat} (ha : 1 ≤ e.1 ∧ e.1 ≤ n) (hb : 1 ≤ e.2 ∧ e.2 ≤ n) (d v : Nat) :
    clsum n R (addF f e d) v = clsum n R f v + (if R e.1 = R v then (d : Int) else 0) - if R e.2 = R v then (d : Int) else 0 := by
  have h : addF f e d = fun x => (fun x => f x + (fun x => if x = e.1 then (d : Int) else 0) x) x + (fun x => if x = e.2 then -(d : Int) else 0) x := by
    funext x
    show addF f e d x = f x + (if x = e.1 then (d : Int) else 0) + if x = e.2 then -(d : Int) else 0
    unfold addF; split <;> split <;> omega
  rw [h, clsum_sum, clsum_sum, clsum_point R ha, clsum_point R hb]
  split <;> split <;> omega
theorem clsum_glue {n : Nat} {R : Nat → Nat} {a b : Nat} (hab : R a ≠ R b) (f : Nat → Int) (v : Nat) :
    clsum n (glue R a b) f v = if R v = R a ∨ R v = R b then clsum n R f a + clsum n R f b else clsum n R f v := by
  unfold clsum
  by_cases h : R v = R a ∨ R v = R b
  · rw [if_pos h, ← sumS_add]
    refine sumS_congr _ fun k _ => ?_
    by_cases h1 : R (k + 1) = R a
    · rw [if_pos ((glue_eq R a b _ _).2 (.inr ⟨.inl h1, h⟩)), if_pos h1, if_neg (fun e => hab (h1.symm.trans e))]; omega
    · by_cases h2 : R (k + 1) = R b
      · rw [if_pos ((glue_eq R a b _ _).2 (.inr ⟨.inr h2, h⟩)), if_neg h1, if_pos h2]; omega
      · rw [if_neg (fun e => by rcases (glue_eq R a b _ _).1 e with e | e <;> omega), if_neg h1, if_neg h2]; rfl
  · rw [if_neg h]
    refine sumS_congr _ fun k _ => ?_
    have : (glue R a b (k + 1) = glue R a b v) ↔ R (k + 1) = R v := by rw [glue_eq]; omega
    simp only [this]
theorem clsum_joined {n : Nat} {R : Nat → Nat} {v w : Nat} (h : R v = R w) (f : Nat → Int) : clsum n R f v = clsum n R f w := by unfold clsum; rw [h]
theorem balB_iff {m n : Nat} {R : Nat → Nat} {f : Nat → Int} : balB m n R f = true ↔ ∀ v, 1 ≤ v → v ≤ n → clsum n R f v % (m : Int) = 0 := by
  simp only [balB, List.all_eq_true, List.mem_range, decide_eq_true_eq]
  constructor
  · intro h v h1 h2
    have := h (v - 1) (by omega)
    rwa [show v - 1 + 1 = v by omega] at this
  · intro h i hi; exact h _ (by omega) (by omega)
theorem bal_loop {m n : Nat} {R : Nat → Nat} {e : Nat × Nat} (ha : 1 ≤ e.1 ∧ e.1 ≤ n) (hb : 1 ≤ e.2 ∧ e.2 ≤ n) (h : R e.1 = R e.2) (f : Nat → Int) (d : Nat) : balB m n R (addF f e d) = balB m n R f := by
  rw [Bool.eq_iff_iff, balB_iff, balB_iff]
  have : ∀ v, clsum n R (addF f e d) v = clsum n R f v := fun v => by rw [clsum_addF R f ha hb, h]; split <;> omega
  simp only [this]
theorem mod_unique {m : Nat} {s : Int} {d d' : Nat} (hd : d < m) (hd' : d' < m) (h : (s + d) % (m : Int) = 0) (h' : (s + d') % (m : Int) = 0) : d = d' := by
  have h1 := Int.emod_emod_of_dvd (s + d) (Int.dvd_refl (m : Int))
  have h2 : ((d : Int) - d') % (m : Int) = 0 := by
    rw [show (d : Int) - d' = (s + d) - (s + d') by omega, Int.sub_emod, h, h']; rfl
  obtain ⟨k, hk⟩ := Int.dvd_of_emod_eq_zero h2
  have hk0 : k = 0 := by
    rcases Int.lt_trichotomy k 0 with l | e | l
    · have := Int.mul_le_mul_of_nonneg_left (show k ≤ -1 by omega) (show (0 : Int) ≤ m by omega); omega
    · exact e
    · have := Int.mul_le_mul_of_nonneg_left (show 1 ≤ k by omega) (show (0 : Int) ≤ m by omega); omega
  rw [hk0] at hk; omega
theorem bal_join {m n : Nat} (hm : 1 ≤ m) {R : Nat → Nat} {e : Nat × Nat} (ha : 1 ≤ e.1 ∧ e.1 ≤ n) (hb : 1 ≤ e.2 ∧ e.2 ≤ n) (hab : R e.1 ≠ R e.2) (f : Nat → Int) :
    sumN (fun d => if balB m n R (addF f e d) = true then 1 else 0) m = if balB m n (glue R e.1 e.2) f = true then 1 else 0 := by
  have hS : ∀ d v, clsum n R (addF f e d) v = clsum n R f v + (if R e.1 = R v then (d : Int) else 0) - if R e.2 = R v then (d : Int) else 0 := clsum_addF R f ha hb
  have hG := clsum_glue (n := n) hab f
  have e1 : ∀ d, clsum n R (addF f e d) e.1 = clsum n R f e.1 + (d : Int) := fun d => by rw [hS, if_pos rfl, if_neg (fun h => hab h.symm)]; omega
  have e2 : ∀ d, clsum n R (addF f e d) e.2 = clsum n R f e.2 - (d : Int) := fun d => by rw [hS, if_pos rfl, if_neg hab]; omega
  have key : ∀ d, balB m n R (addF f e d) = true → balB m n (glue R e.1 e.2) f = true := fun d h => by
    rw [balB_iff] at h ⊢
    intro v h1 h2
    rw [hG]
    split
    · have h3 := h e.1 ha.1 ha.2
      have h4 := h e.2 hb.1 hb.2
      rw [e1] at h3; rw [e2] at h4
      rw [show clsum n R f e.1 + clsum n R f e.2 = (clsum n R f e.1 + (d : Int)) + (clsum n R f e.2 - (d : Int)) by omega, Int.add_emod, h3, h4]; rfl
    · rename_i h0
      have h3 := h v h1 h2
      rw [hS, if_neg (fun h => h0 (.inl h.symm)), if_neg (fun h => h0 (.inr h.symm))] at h3
      rwa [Int.add_zero, Int.sub_zero] at h3
  cases hC : balB m n (glue R e.1 e.2) f with
  | false =>
    rw [if_neg (by simp)]
    refine sumN_nil _ fun d _ => if_neg fun h => ?_
    rw [key d h] at hC; cases hC
  | true =>
    rw [if_pos rfl]
    have hm0 : (0 : Int) < m := by omega
    obtain ⟨d, hd⟩ : ∃ d : Nat, (-(clsum n R f e.1)) % (m : Int) = d := ⟨((-(clsum n R f e.1)) % (m : Int)).toNat, by have := Int.emod_nonneg (-(clsum n R f e.1)) (show (m : Int) ≠ 0 by omega); omega⟩
    have hdm : d < m := by have := Int.emod_lt_of_pos (-(clsum n R f e.1)) hm0; omega
    have h1 : (clsum n R f e.1 + (d : Int)) % (m : Int) = 0 := by
      rw [← hd, Int.add_emod, Int.emod_emod_of_dvd _ (Int.dvd_refl _), ← Int.add_emod, Int.add_right_neg]; rfl
    refine sumN_one (i := d) 1 m hdm (if_pos ?_) ?_
    · rw [balB_iff] at hC ⊢
      have h2 := hC e.1 ha.1 ha.2
      rw [hG, if_pos (.inl rfl)] at h2
      have h3 : (clsum n R f e.2 - (d : Int)) % (m : Int) = 0 := by
        rw [show clsum n R f e.2 - (d : Int) = (clsum n R f e.1 + clsum n R f e.2) - (clsum n R f e.1 + (d : Int)) by omega, Int.sub_emod, h2, h1]; rfl
      intro v h4 h5
      by_cases ea : R e.1 = R v
      · rw [clsum_joined ea.symm, e1]; exact h1
      · by_cases eb : R e.2 = R v
        · rw [clsum_joined eb.symm, e2]; exact h3
        · rw [hS, if_neg ea, if_neg eb, Int.add_zero, Int.sub_zero]
          have := hC v h4 h5
          rwa [hG, if_neg (fun h => h.elim (fun h => ea h.symm) (fun h => eb h.symm))] at this
    · intro k hk hne
      refine if_neg fun h => hne ?_
      rw [balB_iff] at h
      have := h e.1 ha.1 ha.2
      rw [e1] at this
      exact mod_unique hk hdm this h1
theorem addF_comm (f : Nat → Int) (e e' : Nat × Nat) (d d' : Nat) : addF (addF f e d) e' d' = addF (addF f e' d') e d := by
  funext x; unfold addF; omega
theorem addF_zero (f : Nat → Int) (e : Nat × Nat) : addF f e 0 = f := by
  funext x; unfold addF; split <;> split <;> omega
theorem sumN_comm (F : Nat → Nat → Nat) (a : Nat) : ∀ b, sumN (fun i => sumN (fun j => F i j) b) a = sumN (fun j => sumN (fun i => F i j) a) b
  | 0 => by simp only [sumN]; exact sumN_nil a fun _ _ => rfl
  | b + 1 => by simp only [sumN]; rw [sumN_add, sumN_comm F a b]
theorem flN_loop {m n : Nat} {R : Nat → Nat} {e : Nat × Nat} (ha : 1 ≤ e.1 ∧ e.1 ≤ n) (hb : 1 ≤ e.2 ∧ e.2 ≤ n) (h : R e.1 = R e.2) (d : Nat) : ∀ (es : List (Nat × Nat)) (f : Nat → Int), flN m n R es (addF f e d) = flN m n R es f
  | [], f => by simp only [flN, bal_loop ha hb h]
  | e' :: es, f => by
    simp only [flN]
    refine sumN_congr _ fun k _ => ?_
    rw [addF_comm, flN_loop ha hb h d es]
theorem flN_join {m n : Nat} (hm : 1 ≤ m) {R : Nat → Nat} {e : Nat × Nat} (ha : 1 ≤ e.1 ∧ e.1 ≤ n) (hb : 1 ≤ e.2 ∧ e.2 ≤ n) (hab : R e.1 ≠ R e.2) : ∀ (es : List (Nat × Nat)) (f : Nat → Int),
    sumN (fun d => flN m n R es (addF f e d)) m = flN m n (glue R e.1 e.2) es f
  | [], f => bal_join hm ha hb hab f
  | e' :: es, f => by
    simp only [flN]
    rw [sumN_comm]
    refine sumN_congr _ fun k _ => ?_
    rw [← flN_join hm ha hb hab es]
    exact sumN_congr _ fun d _ => by rw [addF_comm]
theorem flN_step {m n : Nat} (hm : 1 ≤ m) {R : Nat → Nat} {e : Nat × Nat} (ha : 1 ≤ e.1 ∧ e.1 ≤ n) (hb : 1 ≤ e.2 ∧ e.2 ≤ n) (es : List (Nat × Nat)) (f : Nat → Int) :
    flN m n R (e :: es) f + flN m n R es f = if R e.1 = R e.2 then m * flN m n R es f else flN m n (glue R e.1 e.2) es f := by
  obtain ⟨k, rfl⟩ : ∃ k, m = k + 1 := ⟨m - 1, by omega⟩
  have h := sumN_first (fun d => flN (k + 1) n R es (addF f e d)) k
  simp only [addF_zero] at h
  by_cases hj : R e.1 = R e.2
  · rw [if_pos hj]
    simp only [flN_loop ha hb hj, sumN_const] at h
    simp only [flN, flN_loop ha hb hj, sumN_const, Nat.add_sub_cancel]
    rw [Nat.mul_comm, Nat.mul_comm (k + 1)]; rw [Nat.mul_comm] ; rw [Nat.mul_succ]
  · rw [if_neg hj, ← flN_join hm ha hb hj, h]
    simp only [flN, Nat.add_sub_cancel]
    omega
/-- A number taken as often times itself as there are edges more than the rank, by turns of the edges that are not there. -/
def flowLeaf (x : Int) (M : Nat) (t r : Nat) : Int := sgn (M + t) (x ^ (t - r))
theorem bal_start (m n : Nat) (R : Nat → Nat) : balB m n R (fun _ => 0) = true := by
  rw [balB_iff]
  intro v _ _
  unfold clsum
  rw [sumS_zero n fun k _ => by split <;> rfl]; simp
theorem sgn_mulr (t : Nat) (x y : Int) : sgn t (x * y) = x * sgn t y := by unfold sgn; split <;> simp [Int.mul_neg]
theorem flow_tut {m n : Nat} (hm : 1 ≤ m) (M : Nat) : ∀ (es : List (Nat × Nat)) (R : Nat → Nat) (t r : Nat), EdgesOk n es → r ≤ t →
    tut (flowLeaf m M) es R t r = sgn (M + t + es.length) ((m : Int) ^ (t - r) * (flN m n R es (fun _ => 0) : Int))
  | [], R, t, r, _, _ => by simp [tut, flowLeaf, flN, bal_start]
  | e :: es, R, t, r, he, hr => by
    have he' : EdgesOk n es := fun x hx => he x (by simp [hx])
    have hee := he e (by simp)
    have h0 := flN_step (m := m) (R := R) hm hee.1 hee.2 es (fun _ => 0)
    have h1 := flow_tut hm M es R t r he' hr
    have hl : M + t + (e :: es).length = M + t + es.length + 1 := by simp only [List.length_cons]; omega
    by_cases hj : R e.1 = R e.2
    · have h2 := flow_tut hm M es R (t + 1) r he' (by omega)
      rw [if_pos hj] at h0
      have h3 : (flN m n R (e :: es) (fun _ => 0) : Int) = (m : Int) * (flN m n R es (fun _ => 0) : Int) - (flN m n R es (fun _ => 0) : Int) := by rw [← Int.natCast_mul]; omega
      rw [tut_loop _ hj, h1, h2, hl, show M + (t + 1) + es.length = M + t + es.length + 1 by omega, sgn_succ, sgn_succ, show t + 1 - r = t - r + 1 by omega, Int.pow_succ, Int.mul_assoc, h3, Int.mul_sub]
      generalize (m : Int) ^ (t - r) * (flN m n R es fun x => 0) = X
      generalize (m : Int) ^ (t - r) * ((m : Int) * (flN m n R es fun x => 0)) = Y
      unfold sgn; split <;> omega
    · have h2 := flow_tut hm M es (glue R e.1 e.2) (t + 1) (r + 1) he' (by omega)
      rw [if_neg hj] at h0
      have h3 : (flN m n R (e :: es) (fun _ => 0) : Int) = (flN m n (glue R e.1 e.2) es (fun _ => 0) : Int) - (flN m n R es (fun _ => 0) : Int) := by omega
      rw [tut_join _ hj, h1, h2, hl, show M + (t + 1) + es.length = M + t + es.length + 1 by omega, sgn_succ, sgn_succ, show t + 1 - (r + 1) = t - r by omega, h3, Int.mul_sub]
      generalize (m : Int) ^ (t - r) * (flN m n R es fun x => 0) = X
      generalize (m : Int) ^ (t - r) * (flN m n (glue R e.1 e.2) es fun x => 0) = Y
      unfold sgn; split <;> omega
/-- What flows at each node, by a number in the base c. -/
def accF (c : Nat) : List (Nat × Nat) → Nat → (Nat → Int) → Nat → Int
  | [], _, f => f
  | e :: es, w, f => accF c es (w / c) (addF f e (w % c + 1))
theorem countP_lowest (g : Nat → Bool) (c : Nat) : ∀ a, (List.range (c * a)).countP g = sumN (fun d => (List.range a).countP fun w => g (c * w + d)) c
  | 0 => by rw [Nat.mul_zero]; exact (sumN_nil c fun _ _ => rfl).symm
  | a + 1 => by
    rw [Nat.mul_succ, List.range_add, List.countP_append, countP_lowest g c a, List.countP_map]
    have h : ∀ k, (List.range k).countP (g ∘ (fun x => c * a + x)) = sumN (fun d => if g (c * a + d) = true then 1 else 0) k := by
      intro k
      induction k with
      | zero => rfl
      | succ k ih => rw [List.range_succ, List.countP_append, ih, List.countP_cons, List.countP_nil]; simp only [sumN, Function.comp]; omega
    rw [h, ← sumN_add]
    refine sumN_congr _ fun d _ => ?_
    rw [List.range_succ, List.countP_append, List.countP_cons, List.countP_nil]; omega
def flowN (m n : Nat) (es : List (Nat × Nat)) (f : Nat → Int) : Nat := (List.range ((m - 1) ^ es.length)).countP fun w => balB m n (fun x => x) (accF (m - 1) es w f)
theorem flowN_flN (m n : Nat) : ∀ (es : List (Nat × Nat)) (f : Nat → Int), flowN m n es f = flN m n (fun x => x) es f
  | [], f => by simp [flowN, flN, accF, List.countP_cons]
  | e :: es, f => by
    unfold flowN
    rw [List.length_cons, Nat.pow_succ, Nat.mul_comm, countP_lowest]
    simp only [flN]
    refine sumN_congr _ fun d hd => ?_
    rw [← flowN_flN m n es]
    unfold flowN
    refine countP_same fun w _ => ?_
    simp only [accF]
    rw [Nat.mul_add_div (by omega), Nat.div_eq_of_lt hd, Nat.mul_add_mod, Nat.mod_eq_of_lt hd, Nat.add_zero]
theorem flowN_tut {m n : Nat} (hm : 1 ≤ m) {es : List (Nat × Nat)} (he : EdgesOk n es) : (flowN m n es (fun _ => 0) : Int) = tut (flowLeaf m es.length) es (fun x => x) 0 0 := by
  rw [flow_tut hm es.length es (fun x => x) 0 0 he (Nat.le_refl _), flowN_flN, Nat.sub_self, sgn_par (show (es.length + 0 + es.length) % 2 = 0 % 2 by omega), sgn_zero, Int.pow_zero, Int.one_mul]
theorem flowLeaf_both (x : Int) (M t r : Nat) : flowLeaf x M (t + 1) (r + 1) = - flowLeaf x M t r := by
  unfold flowLeaf; rw [show M + (t + 1) = M + t + 1 by omega, sgn_succ, show t + 1 - (r + 1) = t - r by omega]
/-- An edge whose ends nothing else joins: no flows. -/
theorem flow_bridge (x : Int) (M : Nat) {e : Nat × Nat} : ∀ (es : List (Nat × Nat)) (R : Nat → Nat) (t r : Nat), (∃ F : Nat → Nat, Sub R F ∧ (∀ f ∈ es, F f.1 = F f.2) ∧ F e.1 ≠ F e.2) →
    tut (flowLeaf x M) es R t r + tut (flowLeaf x M) es (glue R e.1 e.2) (t + 1) (r + 1) = 0
  | [], R, t, r, _ => by simp only [tut, flowLeaf_both]; omega
  | f :: es, R, t, r, ⟨F, hs, hj, hne⟩ => by
    have hf := hj f (by simp)
    have hj' : ∀ f ∈ es, F f.1 = F f.2 := fun f h => hj f (by simp [h])
    have h1 := flow_bridge x M es R t r ⟨F, hs, hj', hne⟩
    by_cases hr : R f.1 = R f.2
    · have h2 := flow_bridge x M es R (t + 1) r ⟨F, hs, hj', hne⟩
      rw [tut_loop _ hr, tut_loop _ (glue_kept hr _ _)]
      omega
    · have hg : glue R e.1 e.2 f.1 ≠ glue R e.1 e.2 f.2 := fun h => by
        rcases (glue_eq R e.1 e.2 f.1 f.2).1 h with h | ⟨h3, h4⟩
        · exact hr h
        · apply hne
          rcases h3 with h3 | h3 <;> rcases h4 with h4 | h4
          · exact absurd (h3.trans h4.symm) hr
          · rw [← hs _ _ h3, ← hs _ _ h4, hf]
          · rw [← hs _ _ h3, ← hs _ _ h4, hf]
          · exact absurd (h3.trans h4.symm) hr
      have h2 := flow_bridge x M es (glue R f.1 f.2) (t + 1) (r + 1) ⟨F, hs.glue hf, hj', hne⟩
      rw [tut_join _ hr, tut_join _ hg, tut_ker _ es _ _ _ _ (Ker.comm R e.1 e.2 f.1 f.2)]
      omega
theorem flow_none (x : Int) (M : Nat) {e : Nat × Nat} {l1 l2 : List (Nat × Nat)} (hne : e.1 ≠ e.2) (h : ∃ F : Nat → Nat, (∀ f ∈ l1 ++ l2, F f.1 = F f.2) ∧ F e.1 ≠ F e.2) :
    tut (flowLeaf x M) (l1 ++ e :: l2) (fun x => x) 0 0 = 0 := by
  obtain ⟨F, h1, h2⟩ := h
  rw [tut_move, tut_join _ hne]
  exact flow_bridge x M (l1 ++ l2) (fun x => x) 0 0 ⟨F, fun x y h => congrArg F (show x = y from h), h1, h2⟩
/-- An edge that alone has its ends: with its ends made one, less without it. -/
theorem flow_split (x : Int) {n : Nat} {g : Nat × Nat} (hg : 1 ≤ g.1 ∧ g.1 < g.2 ∧ g.2 ≤ n) {l1 l2 : List (Nat × Nat)} (he : EdgesOk n (l1 ++ l2)) :
    tut (flowLeaf x (l1 ++ g :: l2).length) (l1 ++ g :: l2) (fun x => x) 0 0 = tut (flowLeaf x ((l1 ++ l2).map (mmN (renN g))).length) ((l1 ++ l2).map (mmN (renN g))) (fun x => x) 0 0 - tut (flowLeaf x (l1 ++ l2).length) (l1 ++ l2) (fun x => x) 0 0 := by
  rw [tut_move, tut_join _ (show (fun x : Nat => x) g.1 ≠ (fun x : Nat => x) g.2 by simp only; omega), tut_made _ hg _ he]
  have hl : (l1 ++ g :: l2).length = (l1 ++ l2).length + 1 := by simp; omega
  rw [hl, List.length_map]
  generalize (l1 ++ l2).length = M
  rw [tut_leaf (leaf := flowLeaf x (M + 1)) (leaf' := flowLeaf x M) (c := -1) (l1 ++ l2) _ 0 0 0 0 fun a b => by
    unfold flowLeaf; rw [show M + 1 + (0 + a) = M + (0 + a) + 1 by omega, sgn_succ]; omega]
  rw [tut_leaf (leaf := flowLeaf x (M + 1)) (leaf' := flowLeaf x M) (c := 1) _ _ (0 + 1) (0 + 1) 0 0 fun a b => by
    unfold flowLeaf; rw [show M + 1 + (0 + 1 + a) = M + (0 + a) + 1 + 1 by omega, sgn_succ, sgn_succ, show 0 + 1 + a - (0 + 1 + b) = 0 + a - (0 + b) by omega]; omega]
  omega
theorem flow_one {n : Nat} {es : List (Nat × Nat)} : flowN 1 n es (fun _ => 0) = if es.length = 0 then 1 else 0 := by
  cases es with
  | nil => simp [flowN, accF, bal_start]
  | cons e es => simp [flowN, Nat.pow_succ]
end Go.Proofs.Ytgacgaidlbkkmaa
