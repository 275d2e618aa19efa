/- Plain facts: what the value tells at some numbers: least states, states without a ring, all states, arrows, paintings, flows, whole states. -/
import Derived.Test.YtdacfeebidhgnaaCyc
namespace Go.Proofs.Ytdacfeebidhgnaa
set_option maxRecDepth 100000

theorem powI_one (k : Nat) : (1 : Int) ^ k = 1 := by
  induction k with
  | zero => rfl
  | succ k ih => rw [Int.pow_succ, ih]; rfl
theorem powI_zero {k : Nat} (h : k ≠ 0) : (0 : Int) ^ k = 0 := by
  obtain ⟨j, rfl⟩ : ∃ j, k = j + 1 := ⟨k - 1, by omega⟩
  rw [Int.pow_succ]; omega
theorem powI_neg (x : Int) (k : Nat) : (-x) ^ k = sgn k (x ^ k) := by
  induction k with
  | zero => rw [Int.pow_zero, Int.pow_zero, sgn_zero]
  | succ k ih =>
    rw [Int.pow_succ, ih, sgn_succ, Int.pow_succ, sgn_mul k (x ^ k), sgn_mul k (x ^ k * x), Int.mul_neg, Int.mul_assoc]
theorem sgn_prod (a b : Nat) : sgn a 1 * sgn b 1 = sgn (a + b) 1 := by rw [← sgn_mul, sgn_both]
/-- How many least states there are. -/
def baseN (es : List (Nat × Nat)) (R : Nat → Nat) : Nat := (List.range (2 ^ es.length)).countP fun s => baseB es R fun i => s.testBit i
theorem sumS_count {p : Nat → Bool} {f : Nat → Int} (h : ∀ s, f s = if p s = true then 1 else 0) : ∀ n, sumS f n = (((List.range n).countP p : Nat) : Int)
  | 0 => rfl
  | n + 1 => by
    rw [List.range_succ, List.countP_append]
    simp only [sumS, sumS_count h n, h n, List.countP_cons, List.countP_nil]
    split <;> omega
theorem val_bases (es : List (Nat × Nat)) (R : Nat → Nat) : valR 1 1 es R = (baseN es R : Int) := by
  rw [← act_val 1 1 _ es R rfl]
  unfold actR baseN
  exact sumS_count (fun s => by unfold actT; rw [powI_one, powI_one]; rfl) _
theorem edge_pos {x y : Int} (hx : 1 ≤ x) (hy : 1 ≤ y) : ∀ (es : List (Nat × Nat)) (R : Nat → Nat), 1 ≤ edgeV x y es R
  | [], _ => Int.le_refl _
  | e :: es, R => by
    have h1 := edge_pos hx hy es R
    have h2 := edge_pos hx hy es (glue R e.1 e.2)
    have h3 := Int.mul_le_mul hy h1 (by decide) (by omega)
    have h4 := Int.mul_le_mul hx h2 (by decide) (by omega)
    simp only [edgeV]
    split
    · omega
    · split <;> omega
theorem base_some (es : List (Nat × Nat)) (R : Nat → Nat) : 1 ≤ baseN es R := by
  have h1 := val_bases es R
  have h2 := edge_pos (x := 1) (y := 1) (by decide) (by decide) es R
  rw [edge_val] at h2; omega
theorem tut_ones : ∀ (es : List (Nat × Nat)) (R : Nat → Nat) (t r : Nat), tut (fun _ _ => 1) es R t r = ((2 ^ es.length : Nat) : Int)
  | [], _, _, _ => rfl
  | e :: es, R, t, r => by
    simp only [tut, tut_ones es, List.length_cons, Nat.pow_succ]
    split <;> omega
theorem val_all (es : List (Nat × Nat)) (R : Nat → Nat) : valR 2 2 es R = ((2 ^ es.length : Nat) : Int) := by
  rw [← tut_ones es R 0 0]
  show tut _ es R 0 0 = _
  rw [tut_leafR (leaf := valLeaf 2 2 (rkA es R)) (leaf' := fun _ _ => 1) (c := 1) es R 0 0 0 0 fun a b _ _ _ => by
    unfold valLeaf; rw [show (2 : Int) - 1 = 1 from rfl, powI_one, powI_one]]
  omega
theorem val_acy (es : List (Nat × Nat)) (R : Nat → Nat) : valR 2 0 es R = (acyN R es : Int) := by
  rw [acy_tut]
  show tut _ es R 0 0 = _
  rw [tut_leafR (leaf := valLeaf 2 0 (rkA es R)) (leaf' := arrLeaf) (c := 1) es R 0 0 0 0 fun a b h _ _ => by
    unfold valLeaf arrLeaf
    rw [show (2 : Int) - 1 = 1 from rfl, powI_one, show (0 : Int) - 1 = -1 from rfl, sgn_pow, sgn_par (show (0 + a - (0 + b)) % 2 = (0 + a + (0 + b)) % 2 by omega)]]
  omega
theorem val_tc (es : List (Nat × Nat)) (R : Nat → Nat) : valR 0 2 es R = (tcN R es : Int) := by rw [tcN_val, edge_val]
theorem forests_more : ∀ (es : List (Nat × Nat)) (R : Nat → Nat) (k : Nat), es.length < k → forests es R k = 0
  | [], _, k, h => by simp only [forests]; rw [if_neg (by simp at h; omega)]
  | e :: es, R, 0, h => by simp at h
  | e :: es, R, k + 1, h => by
    simp only [List.length_cons] at h
    simp only [forests]
    rw [forests_more es R (k + 1) (by omega), forests_more es _ k (by omega)]
    simp
theorem sumN_front (f : Nat → Nat) : ∀ n, sumN f (n + 1) = f 0 + sumN (fun k => f (k + 1)) n
  | 0 => by simp [sumN]
  | n + 1 => by
    rw [sumN, sumN_front f n, sumN]; omega
def forLeaf (t r : Nat) : Int := if t = r then 1 else 0
theorem for_none : ∀ (es : List (Nat × Nat)) (R : Nat → Nat) (t r : Nat), r < t → tut forLeaf es R t r = 0
  | [], _, t, r, h => by simp only [tut, forLeaf]; rw [if_neg (by omega)]
  | e :: es, R, t, r, h => by
    simp only [tut]
    rw [for_none es R t r h, for_none es R (t + 1) r (by omega), for_none es _ (t + 1) (r + 1) (by omega)]
    split <;> rfl
theorem for_sum : ∀ (es : List (Nat × Nat)) (R : Nat → Nat) (t : Nat), tut forLeaf es R t t = ((sumN (forests es R) (es.length + 1) : Nat) : Int)
  | [], _, t => by simp [tut, forLeaf, sumN, forests]
  | e :: es, R, t => by
    rw [List.length_cons, sumN_front]
    have h1 : sumN (fun k => forests (e :: es) R (k + 1)) (es.length + 1) = sumN (fun k => forests es R (k + 1)) (es.length + 1) + sumN (fun k => if R e.1 = R e.2 then 0 else forests es (glue R e.1 e.2) k) (es.length + 1) := by
      rw [← sumN_add]; rfl
    have h2 := sumN_front (forests es R) (es.length + 1)
    have h3 : sumN (forests es R) (es.length + 1 + 1) = sumN (forests es R) (es.length + 1) + forests es R (es.length + 1) := rfl
    rw [forests_more es R (es.length + 1) (by omega)] at h3
    have h4 : forests (e :: es) R 0 = forests es R 0 := rfl
    have h5 := for_sum es R t
    simp only [tut]
    by_cases hj : R e.1 = R e.2
    · rw [if_pos hj, for_none es R (t + 1) t (by omega)]
      simp only [if_pos hj] at h1
      have h6 : sumN (fun _ => 0) (es.length + 1) = 0 := by
        generalize es.length + 1 = m
        induction m with
        | zero => rfl
        | succ m ih => rw [sumN, ih]
      omega
    · rw [if_neg hj, for_sum es _ (t + 1)]
      simp only [if_neg hj] at h1
      have h6 : sumN (fun k => forests es (glue R e.1 e.2) k) (es.length + 1) = sumN (forests es (glue R e.1 e.2)) (es.length + 1) := rfl
      omega
theorem val_forests (es : List (Nat × Nat)) (R : Nat → Nat) : valR 2 1 es R = ((sumN (forests es R) (es.length + 1) : Nat) : Int) := by
  rw [← for_sum es R 0]
  show tut _ es R 0 0 = _
  rw [tut_leafR (leaf := valLeaf 2 1 (rkA es R)) (leaf' := forLeaf) (c := 1) es R 0 0 0 0 fun a b h _ _ => by
    unfold valLeaf forLeaf
    rw [show (2 : Int) - 1 = 1 from rfl, powI_one, show (1 : Int) - 1 = 0 from rfl]
    by_cases hab : a = b
    · subst hab; rw [if_pos rfl]; simp
    · rw [if_neg (by omega), powI_zero (by omega)]]
  omega
theorem val_paint {c : Int} {n : Nat} {es : List (Nat × Nat)} {R : Nat → Nat} (hn : rkA es R ≤ n) : tut (paintLeaf c n) es R 0 0 = sgn (rkA es R) (c ^ (n - rkA es R) * valR (1 - c) 0 es R) := by
  show _ = sgn _ (_ * tut _ es R 0 0)
  generalize hρ : rkA es R = ρ at *
  rw [tut_leafR (leaf := paintLeaf c n) (leaf' := valLeaf (1 - c) 0 ρ) (c := sgn ρ (c ^ (n - ρ))) es R 0 0 0 0 fun a b h1 h2 h3 => by
    rw [hρ] at h2
    unfold valLeaf paintLeaf
    rw [show 1 - c - 1 = -c by omega, show (0 : Int) - 1 = -1 from rfl, powI_neg c, sgn_pow]
    rw [show n - (0 + b) = (n - ρ) + (ρ - (0 + b)) by omega, Int.pow_add]
    generalize c ^ (n - ρ) = P
    generalize c ^ (ρ - (0 + b)) = Q
    rw [sgn_mul (0 + a) (P * Q), sgn_mul ρ P, sgn_mul (ρ - (0 + b)) Q]
    rw [sgn_par (show (0 + a) % 2 = (ρ + ((ρ - (0 + b)) + (0 + a - (0 + b)))) % 2 by omega), ← sgn_prod, ← sgn_prod]
    generalize sgn ρ 1 = A
    generalize sgn (ρ - (0 + b)) 1 = B
    generalize sgn (0 + a - (0 + b)) 1 = C
    rw [Int.mul_assoc A P, Int.mul_assoc A (B * C)]
    congr 1
    rw [Int.mul_comm (B * C), Int.mul_assoc P Q]
    congr 1
    rw [Int.mul_comm B Q, Int.mul_assoc]]
  rw [sgn_mul, sgn_mul ρ (c ^ (n - ρ) * _), Int.mul_assoc]
theorem val_flow {x : Int} {M : Nat} {es : List (Nat × Nat)} {R : Nat → Nat} (hn : rkA es R ≤ M) : tut (flowLeaf x M) es R 0 0 = sgn (M - rkA es R) (valR 0 (1 - x) es R) := by
  show _ = sgn _ (tut _ es R 0 0)
  generalize hρ : rkA es R = ρ at *
  rw [tut_leafR (leaf := flowLeaf x M) (leaf' := valLeaf 0 (1 - x) ρ) (c := sgn (M - ρ) 1) es R 0 0 0 0 fun a b h1 h2 h3 => by
    rw [hρ] at h2
    unfold valLeaf flowLeaf
    rw [show 1 - x - 1 = -x by omega, show (0 : Int) - 1 = -1 from rfl, powI_neg x, sgn_pow]
    generalize x ^ (0 + a - (0 + b)) = P
    rw [sgn_mul (M + (0 + a)) P, sgn_mul (0 + a - (0 + b)) P]
    rw [sgn_par (show (M + (0 + a)) % 2 = ((M - ρ) + ((ρ - (0 + b)) + (0 + a - (0 + b)))) % 2 by omega), ← sgn_prod, ← sgn_prod]
    rw [Int.mul_assoc, Int.mul_assoc]]
  rw [sgn_mul (M - ρ) (tut _ _ _ _ _)]
def wholeLeaf (n : Nat) (_t r : Nat) : Int := if r + 1 = n then 1 else 0
theorem whole_sum {n : Nat} : ∀ (es : List (Nat × Nat)) (R : Nat → Nat) (t r : Nat), EdgesOk n es → Good n R → cnt R n + r = n → tut (wholeLeaf n) es R t r = ((sumN (ways (whole1 n) es R) (es.length + 1) : Nat) : Int)
  | [], R, t, r, _, _, h => by
    simp only [tut, wholeLeaf, List.length_nil, sumN, ways, whole1, Nat.zero_add]
    by_cases h1 : cnt R n = 1
    · rw [if_pos (by omega)]; simp [h1]
    · rw [if_neg (by omega)]; simp [h1]
  | e :: es, R, t, r, he, hg, h => by
    have he' : EdgesOk n es := fun x hx => he x (by simp [hx])
    have hee := he e (by simp)
    have hb : Blind (whole1 n) ∨ True := .inr trivial
    rw [List.length_cons, sumN_front]
    have h1 : sumN (fun k => ways (whole1 n) (e :: es) R (k + 1)) (es.length + 1) = sumN (fun k => ways (whole1 n) es R (k + 1)) (es.length + 1) + sumN (fun k => ways (whole1 n) es (glue R e.1 e.2) k) (es.length + 1) := by
      rw [← sumN_add]; rfl
    have h2 := sumN_front (ways (whole1 n) es R) (es.length + 1)
    have h3 : sumN (ways (whole1 n) es R) (es.length + 1 + 1) = sumN (ways (whole1 n) es R) (es.length + 1) + ways (whole1 n) es R (es.length + 1) := rfl
    rw [ways_more (whole1 n) es R (es.length + 1) (by omega)] at h3
    have h4 : ways (whole1 n) (e :: es) R 0 = ways (whole1 n) es R 0 := rfl
    have h5 := whole_sum es R t r he' hg h
    have h6 := cnt_glue (a := e.1) hg.idem hg.range hee.2
    have h7 : sumN (fun k => ways (whole1 n) es (glue R e.1 e.2) k) (es.length + 1) = sumN (ways (whole1 n) es (glue R e.1 e.2)) (es.length + 1) := rfl
    simp only [tut]
    by_cases hj : R e.1 = R e.2
    · rw [if_pos hj] at h6 ⊢
      have h8 := whole_sum es (glue R e.1 e.2) (t + 1) r he' (hg.glue hee.1) (by omega)
      rw [tut_ker _ es _ _ _ _ (Ker.joined hj)] at h8
      omega
    · rw [if_neg hj] at h6 ⊢
      have h8 := whole_sum es (glue R e.1 e.2) (t + 1) (r + 1) he' (hg.glue hee.1) (by omega)
      omega
theorem val_whole {n : Nat} {es : List (Nat × Nat)} (he : EdgesOk n es) (hn : 1 ≤ n) (hw : rkA es (fun x => x) + 1 = n) : valR 1 2 es (fun x => x) = ((sumN (ways (wholeA n) es fun x => x) (es.length + 1) : Nat) : Int) := by
  have h := whole_sum es (fun x => x) 0 0 he (good_start n) (start_cnt n)
  rw [sumN_congr (es.length + 1) fun k _ => ways_good hn es (fun x => x) k he (good_start n)] at h
  rw [← h]
  show tut _ es _ 0 0 = _
  rw [tut_leafR (leaf := valLeaf 1 2 (rkA es fun x => x)) (leaf' := wholeLeaf n) (c := 1) es _ 0 0 0 0 fun a b h h2 _ => by
    unfold valLeaf wholeLeaf
    rw [show (2 : Int) - 1 = 1 from rfl, powI_one, show (1 : Int) - 1 = 0 from rfl]
    by_cases hab : b = rkA es fun x => x
    · rw [if_pos (by omega), show rkA es (fun x => x) - (0 + b) = 0 by omega]; rfl
    · rw [if_neg (by omega), powI_zero (by omega)]; rfl]
  omega
/-- The order of the edges does not matter. -/
theorem valR_rev (x y : Int) : ∀ (es : List (Nat × Nat)) (R : Nat → Nat), valR x y es.reverse R = valR x y es R
  | [], _ => rfl
  | e :: es, R => by
    rw [List.reverse_cons, valR_move, List.append_nil]
    have h : rkA (e :: es.reverse) R = rkA (e :: es) R := by
      have : ∀ (l : List (Nat × Nat)) (R : Nat → Nat), rkA l.reverse R = rkA l R := by
        intro l
        induction l with
        | nil => exact fun _ => rfl
        | cons f l ih => intro R; rw [List.reverse_cons, rkA_move, List.append_nil]; exact rkA_cons_congr ih f R
      exact rkA_cons_congr (this es) e R
    have h2 : ∀ (leaf : Nat → Nat → Int) (l : List (Nat × Nat)) (R : Nat → Nat) (t r : Nat), tut leaf l.reverse R t r = tut leaf l R t r := by
      intro leaf l
      induction l with
      | nil => exact fun _ _ _ => rfl
      | cons f l ih => intro R t r; rw [List.reverse_cons, tut_move, List.append_nil]; exact tut_congr leaf ih f R t r
    unfold valR
    rw [h, tut_congr _ (h2 _ es)]
end Go.Proofs.Ytdacfeebidhgnaa
