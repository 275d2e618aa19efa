/- Edges of grids, told by their places: between two points, and between two fields. -/
import Derived.Test.YtcmomghlepmogabWalk7
import Derived.Test.YtcmomghlepmogabBitsU
import Derived.Test.YtcmomghlepmogabGrid
namespace Go.Proofs.Ytcmomghlepmogab
open Go.RowKit
set_option maxRecDepth 100000

def setO : Option Nat → Nat
  | none => 0
  | some k => 2 ^ k
def hitO (K : Nat) : Option Nat → Bool
  | none => false
  | some k => K.testBit k
theorem setO_and (o : Option Nat) (K : Nat) : (setO o &&& K == 0) = !hitO K o := by
  cases o with
  | none => simp [setO, hitO]
  | some k =>
    show (2 ^ k &&& K == 0) = !K.testBit k
    cases hk : K.testBit k with
    | true => exact and_zero.2 ⟨k, by rw [Nat.testBit_two_pow]; simp, hk⟩
    | false =>
      cases h : (2 ^ k &&& K == 0) with
      | true => rfl
      | false =>
        obtain ⟨i, h1, h2⟩ := and_zero.1 h
        rw [Nat.testBit_two_pow, decide_eq_true_eq] at h1
        subst h1; rw [h2] at hk; cases hk
/-- The edge in a column from a point upwards; from one point to another one; from one field to another one. -/
def colO (w h x y : Nat) : Option Nat := if x = 0 ∨ x + 1 = w then none else some (h * (w - 1) + y * (w - 2) + x - 1)
def ptO (w h x y : Nat) (x' y' : Int) : Option Nat := if y = y'.toNat then some (y * (w - 1) + min x x'.toNat) else colO w h x (min y y'.toNat)
def fdO (w h x y : Nat) (x' y' : Int) : Option Nat := if x = x'.toNat then some (min y y'.toNat * (w - 1) + x) else if y = 0 ∨ y = h then none else colO w h (max x x'.toNat) (y - 1)
def hitS (c r : Nat) (O : Int → Int → Option Nat) (K : Nat) (x y : Int) : Bool := !(onlyN c r x y == 0) && hitO K (O x y)
/-- What the first k steps lead to over edges of K. -/
def sideN (c r : Nat) (O : Int → Int → Option Nat) (K : Nat) (ps : List (Int × Int)) (x y : Int) : Nat → Nat
  | 0 => 0
  | k + 1 => sideN c r O K ps x y k ||| (if hitS c r O K (x + (ps.getD k (0, 0)).1) (y + (ps.getD k (0, 0)).2) = true then onlyN c r (x + (ps.getD k (0, 0)).1) (y + (ps.getD k (0, 0)).2) else 0)
def goL (c r : Nat) (O : Int → Int → Option Nat) (b : Nat) (x y : Int) : List Nat := if 0 ≤ x ∧ x < c ∧ 0 ≤ y ∧ y < r ∧ y.toNat * c + x.toNat = b then (O x y).toList else []
def idxN (c r : Nat) (O : Int → Int → Option Nat) (ps : List (Int × Int)) (b : Nat) (x y : Int) : Nat → List Nat
  | 0 => []
  | k + 1 => idxN c r O ps b x y k ++ goL c r O b (x + (ps.getD k (0, 0)).1) (y + (ps.getD k (0, 0)).2)
theorem go_bit (c r : Nat) (O : Int → Int → Option Nat) (K b : Nat) (x y : Int) : (if hitS c r O K x y = true then onlyN c r x y else 0).testBit b = (goL c r O b x y).any K.testBit := by
  unfold hitS goL onlyN
  by_cases h : 0 ≤ x ∧ x < c ∧ 0 ≤ y ∧ y < r
  · rw [if_pos h]
    have hp : (2 ^ (y.toNat * c + x.toNat) == 0) = false := by
      rw [beq_eq_false_iff_ne]; have := Nat.one_le_two_pow (n := y.toNat * c + x.toNat); omega
    rw [hp]
    obtain ⟨h1, h2, h3, h4⟩ := h
    simp only [h1, h2, h3, h4, true_and, Bool.not_false, Bool.true_and]
    cases hO : O x y with
    | none => simp [hitO]
    | some k =>
      by_cases hb : y.toNat * c + x.toNat = b
      · rw [if_pos hb]
        cases hk : K.testBit k <;> simp [hitO, hk, hb]
      · rw [if_neg hb]
        cases hk : K.testBit k <;> simp [hitO, hk, hb]
  · rw [if_neg h]; simp; intro k a1 a2 a3 a4; exact absurd ⟨a1, a2, a3, a4⟩ h
theorem side_bit (c r : Nat) (O : Int → Int → Option Nat) (K b : Nat) (ps : List (Int × Int)) (x y : Int) : ∀ k, (sideN c r O K ps x y k).testBit b = (idxN c r O ps b x y k).any K.testBit
  | 0 => by simp [sideN, idxN]
  | k + 1 => by rw [sideN, idxN, Nat.testBit_or, List.any_append, side_bit c r O K b ps x y k, go_bit]
theorem only_below {c r : Nat} {x y : Int} : onlyN c r x y < 2 ^ (c * r) := by
  unfold onlyN
  split
  · rename_i h
    refine Nat.pow_lt_pow_right (by omega) ?_
    have h1 : y.toNat + 1 ≤ r := by omega
    have h2 := Nat.mul_le_mul_right c h1
    rw [Nat.succ_mul] at h2
    rw [Nat.mul_comm c r]; omega
  · exact Nat.two_pow_pos _
theorem side_lt {c r : Nat} {O : Int → Int → Option Nat} {K : Nat} {ps : List (Int × Int)} {x y : Int} : ∀ k, sideN c r O K ps x y k < 2 ^ (c * r)
  | 0 => Nat.two_pow_pos _
  | k + 1 => by
    unfold sideN
    refine Nat.or_lt_two_pow (side_lt k) ?_
    split
    · exact only_below
    · exact Nat.two_pow_pos _

def idxP (w h a b : Nat) : List Nat :=
  (((if a + 1 = b ∧ a % w + 1 < w then [a / w * (w - 1) + a % w] else []) ++ (if b + 1 = a ∧ b % w + 1 < w then [b / w * (w - 1) + b % w] else [])) ++
    (if a + w = b ∧ 0 < a % w ∧ a % w + 1 < w ∧ a / w + 1 < h then [(w - 1) * h + a / w * (w - 2) + a % w - 1] else [])) ++
    (if b + w = a ∧ 0 < b % w ∧ b % w + 1 < w ∧ b / w + 1 < h then [(w - 1) * h + b / w * (w - 2) + b % w - 1] else [])
def idxF (w h a b : Nat) : List Nat :=
  (((if a + 1 = b ∧ a % (w - 1) + 1 < w - 1 ∧ 0 < a / (w - 1) ∧ a / (w - 1) < h then [(w - 1) * h + (a / (w - 1) - 1) * (w - 2) + a % (w - 1)] else []) ++
    (if b + 1 = a ∧ b % (w - 1) + 1 < w - 1 ∧ 0 < b / (w - 1) ∧ b / (w - 1) < h then [(w - 1) * h + (b / (w - 1) - 1) * (w - 2) + b % (w - 1)] else [])) ++
    (if a + (w - 1) = b ∧ a / (w - 1) < h then [a / (w - 1) * (w - 1) + a % (w - 1)] else [])) ++
    (if b + (w - 1) = a ∧ b / (w - 1) < h then [b / (w - 1) * (w - 1) + b % (w - 1)] else [])
def ptC (w h a b : Nat) : Bool := decide (w < 2) || (decide (h < 1) || decide (idxN w h (ptO w h (a % w) (a / w)) sSteps b (a % w : Nat) (a / w : Nat) 4 = idxP w h a b))
def fdC (w h a b : Nat) : Bool := decide (w < 2) || (decide (h < 1) || (decide (idxN (w - 1) (h + 1) (fdO w h (a % (w - 1)) (a / (w - 1))) sSteps b (a % (w - 1) : Nat) (a / (w - 1) : Nat) 4 = idxF w h a b) && (idxF w h a b).all fun k => decide (k < gridE w h)))
theorem pt_all : ∀ w, w < 5 → ∀ h, h < 4 → ∀ a, a < w * h → ∀ b, b < w * h → ptC w h a b = true := by decide +kernel
theorem fd_all : ∀ w, w < 5 → ∀ h, h < 4 → ∀ a, a < (w - 1) * (h + 1) → ∀ b, b < (w - 1) * (h + 1) → fdC w h a b = true := by decide +kernel
theorem pt_idx {w h a b : Nat} (hw : 2 ≤ w ∧ w ≤ 4) (hh : 1 ≤ h ∧ h ≤ 3) (ha : a < w * h) (hb : b < w * h) : idxN w h (ptO w h (a % w) (a / w)) sSteps b (a % w : Nat) (a / w : Nat) 4 = idxP w h a b := by
  have := pt_all w (by omega) h (by omega) a ha b hb
  unfold ptC at this
  rw [decide_eq_false (show ¬ w < 2 by omega), decide_eq_false (show ¬ h < 1 by omega)] at this
  exact of_decide_eq_true this
theorem fd_idx {w h a b : Nat} (hw : 2 ≤ w ∧ w ≤ 4) (hh : 1 ≤ h ∧ h ≤ 3) (ha : a < (w - 1) * (h + 1)) (hb : b < (w - 1) * (h + 1)) : idxN (w - 1) (h + 1) (fdO w h (a % (w - 1)) (a / (w - 1))) sSteps b (a % (w - 1) : Nat) (a / (w - 1) : Nat) 4 = idxF w h a b ∧ ((idxF w h a b).all fun k => decide (k < gridE w h)) = true := by
  have := fd_all w (by omega) h (by omega) a ha b hb
  unfold fdC at this
  rw [decide_eq_false (show ¬ w < 2 by omega), decide_eq_false (show ¬ h < 1 by omega)] at this
  simp only [Bool.false_or, Bool.and_eq_true] at this
  exact ⟨of_decide_eq_true this.1, this.2⟩
theorem any_if {p : Prop} [Decidable p] (k : Nat) (f : Nat → Bool) : (if p then [k] else []).any f = (decide p && f k) := by split <;> simp [*]
theorem beq_dec (a b : Nat) : (a == b) = decide (a = b) := by by_cases h : a = b <;> simp [h]
theorem adj_pt {w h s a b : Nat} (ha : a < w * h) (hb : b < w * h) : adjG w (ptH w h s) (ptV w h s) a b = (idxP w h a b).any s.testBit := by
  unfold adjG idxP ptH ptV
  simp only [List.any_append, any_if, maskOf_bit, ha, hb, decide_true, Bool.true_and, Bool.decide_and, beq_dec, Bool.and_assoc]
theorem adj_fd {w h s a b : Nat} (ha : a < (w - 1) * (h + 1)) (hb : b < (w - 1) * (h + 1)) : adjG (w - 1) (fdH w h s) (fdV w h s) a b = (idxF w h a b).any (fun k => !s.testBit k) := by
  unfold adjG idxF fdH fdV
  simp only [List.any_append, any_if, maskOf_bit, ha, hb, decide_true, Bool.true_and, Bool.decide_and, beq_dec, Bool.and_assoc]
theorem pt_side {w h s a b : Nat} (hw : 2 ≤ w ∧ w ≤ 4) (hh : 1 ≤ h ∧ h ≤ 3) (ha : a < w * h) (hb : b < w * h) :
    (sideN w h (ptO w h (a % w) (a / w)) s sSteps (a % w : Nat) (a / w : Nat) 4).testBit b = adjG w (ptH w h s) (ptV w h s) a b := by
  rw [side_bit, pt_idx hw hh ha hb, adj_pt ha hb]
theorem any_congr' {f g : Nat → Bool} : ∀ {l : List Nat}, (∀ k ∈ l, f k = g k) → l.any f = l.any g
  | [], _ => rfl
  | x :: l, h => by
    rw [List.any_cons, List.any_cons, h x (by simp), any_congr' fun k hk => h k (by simp [hk])]
theorem fd_side {w h s a b : Nat} (hw : 2 ≤ w ∧ w ≤ 4) (hh : 1 ≤ h ∧ h ≤ 3) (hs : s < 2 ^ gridE w h) (hg : gridE w h ≤ 13) (ha : a < (w - 1) * (h + 1)) (hb : b < (w - 1) * (h + 1)) :
    (sideN (w - 1) (h + 1) (fdO w h (a % (w - 1)) (a / (w - 1))) (notU s) sSteps (a % (w - 1) : Nat) (a / (w - 1) : Nat) 4).testBit b = adjG (w - 1) (fdH w h s) (fdV w h s) a b := by
  obtain ⟨e, hall⟩ := fd_idx hw hh ha hb
  rw [side_bit, e, adj_fd ha hb]
  refine any_congr' fun k hk => ?_
  have := List.all_eq_true.1 hall k hk
  exact notU_bit hs hg (of_decide_eq_true this)
end Go.Proofs.Ytcmomghlepmogab
