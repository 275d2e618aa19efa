/- What is reached step by step from fresh spots: a set of spots, those of it that are fresh, and what tells that all is reached. -/
import Derived.Test.YtcmomghlepmogabBits7
namespace Go.Proofs.Ytcmomghlepmogab
open Go.RowKit
set_option maxRecDepth 100000

/-- D is reached, G is fresh of it. -/
structure Walk7 (T : Nat → Nat → Bool) (n F D G : Nat) : Prop where
  lt : D < 2 ^ n
  sub : ∀ i, G.testBit i = true → D.testBit i = true
  start : ∀ i, F.testBit i = true → D.testBit i = true
  closed : ∀ a b, a < n → b < n → T a b = true → D.testBit a = true → G.testBit a = false → D.testBit b = true
  least : ∀ E : Nat → Prop, (∀ i, F.testBit i = true → E i) → (∀ a b, a < n → b < n → T a b = true → E a → E b) → ∀ i, D.testBit i = true → E i
theorem Walk7.begin {T : Nat → Nat → Bool} {n F : Nat} (hF : F < 2 ^ n) : Walk7 T n F F F :=
  ⟨hF, fun _ h => h, fun _ h => h, fun a b _ _ _ h1 h2 => (by rw [h1] at h2; cases h2), fun E e _ i hi => e i hi⟩
theorem fresh_bit (D G M i j : Nat) : ((G - (G &&& 2 ^ i)) ||| (M - (M &&& D))).testBit j = ((G.testBit j && !decide (i = j)) || (M.testBit j && !D.testBit j)) := by
  rw [Nat.testBit_or, less_and, less_and, Nat.testBit_two_pow]
theorem reach_bit (D M j : Nat) : (D ||| (M - (M &&& D))).testBit j = (D.testBit j || M.testBit j) := by
  rw [Nat.testBit_or, less_and]
  cases D.testBit j <;> cases M.testBit j <;> rfl
theorem Walk7.step {T : Nat → Nat → Bool} {n F D G M i : Nat} (h : Walk7 T n F D G) (hi : G.testBit i = true) (hM : M < 2 ^ n) (hT : ∀ b, b < n → M.testBit b = T i b) :
    Walk7 T n F (D ||| (M - (M &&& D))) ((G - (G &&& 2 ^ i)) ||| (M - (M &&& D))) := by
  have hin : i < n := by
    refine Nat.lt_of_not_le fun hn => ?_
    have := h.sub i hi
    rw [Nat.testBit_lt_two_pow (Nat.lt_of_lt_of_le h.lt (Nat.pow_le_pow_right (by omega) hn))] at this; cases this
  refine ⟨Nat.or_lt_two_pow h.lt (Nat.lt_of_le_of_lt (Nat.sub_le _ _) hM), fun j hj => ?_, fun j hj => ?_, fun a b ha hb ht h1 h2 => ?_, fun E e1 e2 j hj => ?_⟩
  · rw [fresh_bit] at hj
    rw [reach_bit]
    simp only [Bool.or_eq_true, Bool.and_eq_true] at hj ⊢
    rcases hj with hj | hj
    · exact .inl (h.sub j hj.1)
    · exact .inr hj.1
  · rw [reach_bit, h.start j hj]; rfl
  · rw [reach_bit] at h1 ⊢
    rw [fresh_bit] at h2
    by_cases e : i = a
    · subst e
      rw [hT b hb, ht]; simp
    · simp only [Bool.or_eq_true, Bool.or_eq_false_iff, Bool.and_eq_false_iff] at h1 h2 ⊢
      have hda : D.testBit a = true := by
        rcases h1 with h1 | h1
        · exact h1
        · rcases h2.2 with k | k
          · rw [h1] at k; cases k
          · simpa using k
      have hga : G.testBit a = false := by
        rcases h2.1 with k | k
        · exact k
        · simp [e] at k
      exact .inl (h.closed a b ha hb ht hda hga)
  · rw [reach_bit, Bool.or_eq_true] at hj
    rcases hj with hj | hj
    · exact h.least E e1 e2 j hj
    · have hjn : j < n := by
        refine Nat.lt_of_not_le fun hn => ?_
        rw [Nat.testBit_lt_two_pow (Nat.lt_of_lt_of_le hM (Nat.pow_le_pow_right (by omega) hn))] at hj; cases hj
      exact e2 i j hin hjn (by rw [← hT j hjn]; exact hj) (h.least E e1 e2 i (h.sub i hi))
/-- With each spot that is taken up there is one more that is no longer fresh. -/
theorem walk_less {D G M i : Nat} (hs : ∀ i, G.testBit i = true → D.testBit i = true) (hi : G.testBit i = true) :
    D - (D &&& G) < (D ||| (M - (M &&& D))) - ((D ||| (M - (M &&& D))) &&& ((G - (G &&& 2 ^ i)) ||| (M - (M &&& D)))) := by
  have e : (D ||| (M - (M &&& D))) - ((D ||| (M - (M &&& D))) &&& ((G - (G &&& 2 ^ i)) ||| (M - (M &&& D)))) = (D - (D &&& G)) ||| 2 ^ i := by
    refine Nat.eq_of_testBit_eq fun j => ?_
    rw [less_and, reach_bit, fresh_bit, Nat.testBit_or, less_and, Nat.testBit_two_pow]
    by_cases hj : i = j
    · subst hj
      rw [hs i hi]; simp
    · cases h1 : D.testBit j <;> cases h2 : G.testBit j <;> cases h3 : M.testBit j <;> simp [hj]
      all_goals (have := hs j h2; rw [h1] at this; cases this)
  rw [e]
  refine Nat.lt_of_le_of_ne Nat.left_le_or fun h => ?_
  have := congrArg (fun z => z.testBit i) h
  simp only [Nat.testBit_or, less_and, Nat.testBit_two_pow, hi] at this
  simp at this
theorem Walk7.reach {T : Nat → Nat → Bool} {n F D : Nat} (h : Walk7 T n F D 0) {T0 : Nat → Nat → Bool} {S F0 : Nat} (hT : ∀ a b, a < n → b < n → T a b = (T0 a b && S.testBit b)) (hF : ∀ i, F.testBit i = (S.testBit i && F0.testBit i)) (hS : S < 2 ^ n) : Reach T0 n S F0 D := by
  have hn : ∀ i, S.testBit i = true → i < n := fun i hi => Nat.lt_of_not_le fun hn => by
    rw [Nat.testBit_lt_two_pow (Nat.lt_of_lt_of_le hS (Nat.pow_le_pow_right (by omega) hn))] at hi; cases hi
  refine ⟨fun i hi => ?_, fun i h1 h2 => h.start i (by rw [hF, h1, h2]; rfl), fun a b ha hb ht h1 h2 => h.closed a b ha hb (by rw [hT a b ha hb, ht, h2]; rfl) h1 (Nat.zero_testBit a), fun E e1 e2 i hi => ?_⟩
  · refine h.least (fun i => S.testBit i = true) (fun i hi => ?_) (fun a b ha hb ht _ => ?_) i hi
    · rw [hF, Bool.and_eq_true] at hi; exact hi.1
    · rw [hT a b ha hb, Bool.and_eq_true] at ht; exact ht.2
  · refine h.least E (fun i hi => ?_) (fun a b ha hb ht he => ?_) i hi
    · rw [hF, Bool.and_eq_true] at hi; exact e1 i hi.1 hi.2
    · rw [hT a b ha hb, Bool.and_eq_true] at ht; exact e2 a b ha hb ht.1 he ht.2

/-- The set of one spot alone, if it is in the area. -/
def onlyN (c r : Nat) (x y : Int) : Nat := if 0 ≤ x ∧ x < c ∧ 0 ≤ y ∧ y < r then 2 ^ (y.toNat * c + x.toNat) else 0
def tSteps : List (Int × Int) := [(1, 0), (-1, 0), (0, 1), (-1, 1), (0, -1), (1, -1)]
def sSteps : List (Int × Int) := [(1, 0), (-1, 0), (0, 1), (0, -1)]
/-- What the first k steps lead to. -/
def stepsN (c r : Nat) (ps : List (Int × Int)) (x y : Int) : Nat → Nat
  | 0 => 0
  | k + 1 => stepsN c r ps x y k ||| onlyN c r (x + (ps.getD k (0, 0)).1) (y + (ps.getD k (0, 0)).2)
theorem touch_mask : ∀ c, c < 5 → ∀ r, r < 4 → ∀ a, a < c * r → stepsN c r tSteps (a % c : Nat) (a / c : Nat) 6 < 4096 ∧ ∀ b, b < 12 → (stepsN c r tSteps (a % c : Nat) (a / c : Nat) 6).testBit b = (decide (b < c * r) && touchN c a b) := by decide +kernel
end Go.Proofs.Ytcmomghlepmogab
