/- Grids of the reference: rows of truths, pairs, and what grows from pair to pair. -/
import Derived.Test.YtcmomghlepmogabSpec7
import Derived.Test.YtcmomghlepmogabRows2
import Derived.Test.YtcmomghlepmogabTab7
import Derived.BigQuiet
import Derived.BigRegion
namespace Go.Proofs.Ytcmomghlepmogab
open Go.RowKit
set_option maxRecDepth 100000

/-- The truths that the bits of a number tell. -/
def boolsOf (n D : Nat) : List Value := (List.range n).map fun i => Value.bool (D.testBit i)
theorem boolsOf_length (n D : Nat) : (boolsOf n D).length = n := by simp [boolsOf]
theorem boolsOf_get {n D i : Nat} (h : i < n) : (boolsOf n D)[i]? = some (.bool (D.testBit i)) := by simp [boolsOf, h]
theorem or_bits (D b i : Nat) : (D ||| 2 ^ b).testBit i = (D.testBit i || decide (b = i)) := by rw [Nat.testBit_or, Nat.testBit_two_pow]
theorem boolsOf_set (n D k : Nat) : (boolsOf n D).set k (.bool true) = boolsOf n (D ||| 2 ^ k) := by
  apply List.ext_getElem?
  intro j
  by_cases hj : j < n
  · by_cases hk : k = j
    · subst hk; rw [List.getElem?_set_self (by rw [boolsOf_length]; exact hj), boolsOf_get hj, or_bits]; simp
    · rw [List.getElem?_set_ne hk, boolsOf_get hj, boolsOf_get hj, or_bits]; simp [hk]
  · rw [List.getElem?_eq_none (by simp [boolsOf]; omega), List.getElem?_eq_none (by simp [boolsOf]; omega)]
theorem madeCells_bools (n : Nat) : (madeCells #[.bool false] (n * 1)).toList = boolsOf n 0 := by
  apply List.ext_getElem?
  intro j
  by_cases hj : j < n
  · rw [boolsOf_get hj]; simp [madeCells, hj, Nat.mod_one]
  · rw [List.getElem?_eq_none (by simp [madeCells]; omega), List.getElem?_eq_none (by rw [boolsOf_length]; omega)]
theorem bool_info : (Try.prog.info? 4).map (fun i => (i.zero, i.size, i.bytes)) = some (some (.bool false), 1, 1) := by kernel_rfl

/-- A row of n truths of the call's own, in block g, told by the bits of D. -/
def OwnB (u : World) (base g n c D : Nat) : Prop := u.ownsRow base 4 1 (.slice (some ⟨g, 0, none⟩) n c) n (boolsOf n D)
theorem OwnB.slot {u : World} {base g n c D : Nat} (h : OwnB u base g n c D) {k : Nat} (hk : k < n) : u.cell? ⟨g, k, none⟩ = some (.bool (D.testBit k)) ∧ u.frozen? ⟨g, k, none⟩ = false :=
  ⟨by rw [World.ownsRow.cellAt h k (by omega)]; exact boolsOf_get hk, World.ownsRow.frozenAt h k⟩
theorem OwnB.store {u : World} {base g n c D : Nat} (h : OwnB u base g n c D) (k : Nat) : OwnB (u.setCell ⟨g, k, none⟩ (.bool true)) base g n c (D ||| 2 ^ k) := by
  have h1 := (World.ownsRow.stored h k (.bool true)).1
  rw [boolsOf_set] at h1; exact h1
theorem OwnB.lt {u : World} {base g n c D : Nat} (h : OwnB u base g n c D) : g < u.heap.size := (World.ownsRow.lt h g rfl).2
theorem OwnB.ge {u : World} {base g n c D : Nat} (h : OwnB u base g n c D) : base ≤ g := (World.ownsRow.lt h g rfl).1
theorem OwnB.next {u u' : World} {base g n c D : Nat} (h : OwnB u base g n c D) (hb : Below u.heap.size u u') : OwnB u' base g n c D := ownsRow_next h hb
theorem OwnB.drew {u : World} {base g n c D : Nat} (h : OwnB u base g n c D) : OwnB u.drew base g n c D := h.next ((Below.refl _ _).drew)
theorem OwnB.drewN {u : World} {base g n c D : Nat} (h : OwnB u base g n c D) (m : Nat) : OwnB (u.drewN m) base g n c D := h.next (belowN (Below.refl _ _) m)
theorem OwnB.grown {u u' : World} {base g n c D : Nat} {r : Option Nat} (h : OwnB u base g n c D) (hg : u.grownBy u' r) (hr : r ≠ some g) : OwnB u' base g n c D :=
  World.ownsRow.kept h hg (.inr fun e => hr e.symm)

/-- What can be read of a row of pairs, none of it in block gd. -/
def PairsAt (u : World) (gd : Nat) (OA : Option Addr) (ps : List (Nat × Nat)) : Prop :=
  ∀ j a b, ps[j]? = some (a, b) → ∃ ob bb c, OA = some ⟨ob, 0, none⟩ ∧ ob ≠ gd ∧ bb ≠ gd ∧ ob < u.heap.size ∧ bb < u.heap.size ∧ u.cell? ⟨ob, j, none⟩ = some (.slice (some ⟨bb, 0, none⟩) 2 c) ∧ u.cell? ⟨bb, 0, none⟩ = some (.int .i64 (a : Nat)) ∧ u.cell? ⟨bb, 1, none⟩ = some (.int .i64 (b : Nat))
theorem PairsAt.next {u u' : World} {gd : Nat} {OA : Option Addr} {ps : List (Nat × Nat)} (h : PairsAt u gd OA ps) (hb : Below u.heap.size u u') : PairsAt u' gd OA ps := by
  intro j a b hj
  obtain ⟨ob, bb, c, h1, h2, h3, h4, h5, h6, h7, h8⟩ := h j a b hj
  exact ⟨ob, bb, c, h1, h2, h3, Nat.lt_of_lt_of_le h4 hb.size, Nat.lt_of_lt_of_le h5 hb.size, (hb.cell (p := ⟨ob, j, none⟩) h4).trans h6, (hb.cell (p := ⟨bb, 0, none⟩) h5).trans h7, (hb.cell (p := ⟨bb, 1, none⟩) h5).trans h8⟩
theorem PairsAt.set {u : World} {gd : Nat} {OA : Option Addr} {ps : List (Nat × Nat)} (h : PairsAt u gd OA ps) (k : Nat) (v : Value) : PairsAt (u.setCell ⟨gd, k, none⟩ v) gd OA ps := by
  intro j a b hj
  obtain ⟨ob, bb, c, h1, h2, h3, h4, h5, h6, h7, h8⟩ := h j a b hj
  exact ⟨ob, bb, c, h1, h2, h3, by simpa [World.setCell] using h4, by simpa [World.setCell] using h5, (World.cell?_setCell_far _ _ _ _ (by simpa using fun e => h2 e.symm)).trans h6,
    (World.cell?_setCell_far _ _ _ _ (by simpa using fun e => h3 e.symm)).trans h7, (World.cell?_setCell_far _ _ _ _ (by simpa using fun e => h3 e.symm)).trans h8⟩
def pairF (ps : List (Nat × Nat)) (j : Nat) : List Int := [((ps.getD j (0, 0)).1 : Nat), ((ps.getD j (0, 0)).2 : Nat)]
def adjP (ps : List (Nat × Nat)) (a b : Nat) : Bool := decide ((a, b) ∈ ps ∨ (b, a) ∈ ps)
theorem or_same {D b : Nat} (h : D.testBit b = true) : D ||| 2 ^ b = D := by
  refine Nat.eq_of_testBit_eq fun i => ?_
  rw [or_bits]
  by_cases e : b = i
  · subst e; simp [h]
  · simp [e]
theorem or_swap (D a b : Nat) : (D ||| 2 ^ a) ||| 2 ^ b = (D ||| 2 ^ b) ||| 2 ^ a := by rw [Nat.or_assoc, Nat.or_comm (2 ^ a), ← Nat.or_assoc]
/-- Both ends of a pair are put in, one of which is there. -/
theorem Grow7.pair {ps : List (Nat × Nat)} {n F D0 D : Nat} {again : Bool} (h : Grow7 (adjP ps) n (2 ^ n - 1) F D0 D again) {a b : Nat} (ha : a < n) (hb : b < n) (hm : (a, b) ∈ ps) (hne : D.testBit a ≠ D.testBit b) :
    Grow7 (adjP ps) n (2 ^ n - 1) F D0 ((D ||| 2 ^ a) ||| 2 ^ b) true := by
  have full : ∀ i, i < n → (2 ^ n - 1).testBit i = true := fun i hi => by rw [Nat.testBit_two_pow_sub_one]; simpa using hi
  cases h1 : D.testBit a with
  | true =>
    have h2 : D.testBit b = false := by cases h2 : D.testBit b with
      | true => exact absurd (h1.trans h2.symm) hne
      | false => rfl
    rw [or_same h1]
    exact h.hit ha hb (by simp [adjP, hm]) h1 (full b hb) h2
  | false =>
    have h2 : D.testBit b = true := by cases h2 : D.testBit b with
      | true => rfl
      | false => exact absurd (h1.trans h2.symm) hne
    rw [or_swap, or_same h2]
    exact h.hit hb ha (by simp [adjP, hm]) h2 (full a ha) h1

def trueAt (u : World) (g i : Nat) : Bool := match u.cell? ⟨g, i, none⟩ with
  | some (.bool true) => true
  | _ => false
/-- The bits of a row of truths, read out of the world. -/
def maskW (u : World) (g n : Nat) : Nat := maskOf (trueAt u g) n
theorem maskW_is {u : World} {base g n c D : Nat} (h : OwnB u base g n c D) (hD : D < 2 ^ n) : maskW u g n = D := by
  refine Nat.eq_of_testBit_eq fun i => ?_
  unfold maskW
  rw [maskOf_bit]
  by_cases hi : i < n
  · have := (h.slot hi).1
    have e : trueAt u g i = D.testBit i := by
      unfold trueAt
      rw [this]
      cases D.testBit i <;> rfl
    rw [e]; simp [hi]
  · rw [Nat.testBit_lt_two_pow (Nat.lt_of_lt_of_le hD (Nat.pow_le_pow_right (by omega) (by omega)))]; simp [hi]

end Go.Proofs.Ytcmomghlepmogab
