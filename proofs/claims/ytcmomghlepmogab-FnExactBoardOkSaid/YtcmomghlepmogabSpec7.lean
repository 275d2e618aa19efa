/- Boards of the reference: cells that touch, what is reached, sides. -/
import Derived.Test.YtcmomghlepmogabBits7
import Derived.Test.YtcmomghlepmogabRow
import Derived.Test.YtcmomghlepmogabClass
import Derived.Deep.RegionHeld3
namespace Go.Proofs.Ytcmomghlepmogab
open Go.RowKit
set_option maxRecDepth 100000

def boardB (c r : Int) : Bool := (decide (1 ≤ c) && decide (c ≤ 4)) && (decide (1 ≤ r) && decide (r ≤ 3))
theorem boardB_iff {c r : Int} : boardB c r = true ↔ (1 ≤ c ∧ c ≤ 4) ∧ 1 ≤ r ∧ r ≤ 3 := by simp [boardB]
theorem board_nat {c r : Int} (h : boardB c r = true) : ∃ C R : Nat, c = C ∧ r = R ∧ (1 ≤ C ∧ C ≤ 4) ∧ 1 ≤ R ∧ R ≤ 3 := by
  obtain ⟨h1, h2⟩ := boardB_iff.1 h
  exact ⟨c.toNat, r.toNat, by omega, by omega, by omega, by omega⟩
theorem specBoardOk_any (c r : Int) (w : World) : Calls Try.prog 7 #[.int .i64 c, .int .i64 r] w fun e w' => e = .returned (.bool (boardB c r)) ∧ w = w' := by
  unfold boardB
  cases h : (decide (1 ≤ c) && decide (c ≤ 4)) with
  | false =>
    have H := Lib.hid h
    go_enter Try.func7, Try.ntmps7
    go_wp2_with fail
    refine (l1In_any _ _ _ _).mono ?_
    rintro e1 w1 ⟨rfl, rfl⟩
    rw [H.out]
    go_wp2_with fail
    go_returns
    exact ⟨rfl, rfl⟩
  | true =>
    have H := Lib.hid h
    clear h
    go_enter Try.func7, Try.ntmps7
    go_wp2_with fail
    refine (l1In_any _ _ _ _).mono ?_
    rintro e1 w1 ⟨rfl, rfl⟩
    rw [H.out]
    go_wp2_with fail
    refine (l1In_any _ _ _ _).mono ?_
    rintro e2 w2 ⟨rfl, rfl⟩
    go_wp2_with fail
    go_returns
    exact ⟨rfl, rfl⟩

/-- One walk over the cells: what has been reached before, and what now. -/
structure Grow7 (T : Nat → Nat → Bool) (n S F D0 D : Nat) (again : Bool) : Prop where
  sub : ∀ i, D.testBit i = true → S.testBit i = true
  start : ∀ i, S.testBit i = true → F.testBit i = true → D.testBit i = true
  least : ∀ E : Nat → Prop, (∀ i, S.testBit i = true → F.testBit i = true → E i) → (∀ a b, a < n → b < n → T a b = true → E a → S.testBit b = true → E b) → ∀ i, D.testBit i = true → E i
  lt : D < 2 ^ n
  more : if again = true then D0 < D else D = D0
def Done7 (T : Nat → Nat → Bool) (S D a b : Nat) : Prop := T a b = true → D.testBit a = true → S.testBit b = true → D.testBit b = true
theorem grow_bit {D n b : Nat} (hD : D < 2 ^ n) (hb : b < n) (h : D.testBit b = false) : D < D ||| 2 ^ b ∧ D ||| 2 ^ b < 2 ^ n ∧ ∀ i, (D ||| 2 ^ b).testBit i = true ↔ D.testBit i = true ∨ i = b := by
  have hbit : ∀ i, (D ||| 2 ^ b).testBit i = true ↔ D.testBit i = true ∨ i = b := fun i => by
    rw [Nat.testBit_or, Nat.testBit_two_pow, Bool.or_eq_true, decide_eq_true_eq]
    constructor
    · rintro (h | h)
      · exact .inl h
      · exact .inr h.symm
    · rintro (h | h)
      · exact .inl h
      · exact .inr h.symm
  refine ⟨?_, Nat.or_lt_two_pow hD (Nat.pow_lt_pow_right (by omega) hb), hbit⟩
  have h1 : D ≤ D ||| 2 ^ b := Nat.left_le_or
  refine Nat.lt_of_le_of_ne h1 fun e => ?_
  have := (hbit b).2 (.inr rfl)
  rw [← e, h] at this; cases this
theorem Grow7.hit {T : Nat → Nat → Bool} {n S F D0 D : Nat} {again : Bool} (h : Grow7 T n S F D0 D again) {a b : Nat} (ha : a < n) (hb : b < n) (ht : T a b = true) (h1 : D.testBit a = true) (h2 : S.testBit b = true) (h3 : D.testBit b = false) : Grow7 T n S F D0 (D ||| 2 ^ b) true := by
  obtain ⟨g1, g2, g3⟩ := grow_bit h.lt hb h3
  refine ⟨fun i hi => ?_, fun i k1 k2 => (g3 i).2 (.inl (h.start i k1 k2)), fun E e1 e2 i hi => ?_, g2, ?_⟩
  · rcases (g3 i).1 hi with hi | rfl
    · exact h.sub i hi
    · exact h2
  · rcases (g3 i).1 hi with hi | rfl
    · exact h.least E e1 e2 i hi
    · exact e2 a i ha hb ht (h.least E e1 e2 a h1) h2
  · rw [if_pos rfl]
    have := h.more
    cases again
    · rw [if_neg (by simp)] at this; omega
    · rw [if_pos rfl] at this; omega
theorem Grow7.next {T : Nat → Nat → Bool} {n S F D0 D : Nat} {again : Bool} (h : Grow7 T n S F D0 D again) : Grow7 T n S F D D false := ⟨h.sub, h.start, h.least, h.lt, by simp⟩
theorem Grow7.reach {T : Nat → Nat → Bool} {n S F D0 D : Nat} {again : Bool} (h : Grow7 T n S F D0 D again) (hd : ∀ a b, a < n → b < n → Done7 T S D a b) : Reach T n S F D := ⟨h.sub, h.start, fun a b ha hb => hd a b ha hb, h.least⟩
theorem Grow7.skip {T : Nat → Nat → Bool} {n S F D0 D : Nat} {again : Bool} (h : Grow7 T n S F D0 D again) {a b : Nat} (hno : D.testBit a = false ∨ S.testBit b = false ∨ D.testBit b = true ∨ T a b = false) : again = false → Done7 T S D0 a b := by
  intro hg ht h1 h2
  have e := h.more
  rw [hg, if_neg (by simp)] at e
  rw [← e] at h1 ⊢
  rcases hno with k | k | k | k
  · rw [k] at h1; cases h1
  · rw [k] at h2; cases h2
  · exact k
  · rw [k] at ht; cases ht
theorem Grow7.done {T : Nat → Nat → Bool} {n S F D0 D : Nat} (h : Grow7 T n S F D0 D false) : D = D0 := by have := h.more; rwa [if_neg (by simp)] at this
theorem Grow7.grew {T : Nat → Nat → Bool} {n S F D0 D : Nat} (h : Grow7 T n S F D0 D true) : D0 < D := by have := h.more; rwa [if_pos rfl] at this
def oneB : Value → Nat
  | .bool true => 1
  | _ => 0
theorem tm1 {x k : Nat} (h : x.testBit k = true) : ((x : Int) / 2 ^ k).tmod 2 = 1 := by rw [bit_tmod, if_pos h]
theorem tm0 {x k : Nat} (h : x.testBit k = false) : ((x : Int) / 2 ^ k).tmod 2 = 0 := by rw [bit_tmod, if_neg (by rw [h]; simp)]

end Go.Proofs.Ytcmomghlepmogab
