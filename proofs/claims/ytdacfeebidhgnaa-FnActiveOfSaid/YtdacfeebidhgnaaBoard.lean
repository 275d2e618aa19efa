/- Plain facts on boards: what is reached of a set of cells; always just one of both leads across. -/
import Derived.Test.YtdacfeebidhgnaaEd
namespace Go.Proofs.Ytdacfeebidhgnaa
set_option maxRecDepth 100000

/-- For all of 2 ^ k numbers from b on, those that differ in the lowest k places. -/
def allTo (f : Nat → Bool) : Nat → Nat → Bool
  | 0, b => f b
  | k + 1, b => allTo f k b && allTo f k (b + 2 ^ k)
theorem allTo_iff {f : Nat → Bool} : ∀ k b, allTo f k b = true ↔ ∀ s, s < 2 ^ k → f (b + s) = true
  | 0, b => by
    simp only [allTo, Nat.pow_zero]
    constructor
    · intro h s hs; obtain rfl : s = 0 := by omega
      exact h
    · intro h; exact h 0 (by omega)
  | k + 1, b => by
    simp only [allTo, Bool.and_eq_true, allTo_iff k, Nat.pow_succ]
    constructor
    · rintro ⟨h1, h2⟩ s hs
      rcases Nat.lt_or_ge s (2 ^ k) with h | h
      · exact h1 s h
      · have := h2 (s - 2 ^ k) (by omega)
        rwa [show b + 2 ^ k + (s - 2 ^ k) = b + s by omega] at this
    · intro h
      exact ⟨fun s hs => h s (by omega), fun s hs => by rw [Nat.add_assoc]; exact h (2 ^ k + s) (by omega)⟩
/-- The sum over 2 ^ k numbers from b on. -/
def sumTo (f : Nat → Nat) : Nat → Nat → Nat
  | 0, b => f b
  | k + 1, b => sumTo f k b + sumTo f k (b + 2 ^ k)
def totN (f : Nat → Nat) : Nat → Nat
  | 0 => 0
  | n + 1 => totN f n + f n
theorem totN_add (f : Nat → Nat) (m : Nat) : ∀ n, totN f (m + n) = totN f m + totN (fun i => f (m + i)) n
  | 0 => by simp [totN]
  | n + 1 => by rw [← Nat.add_assoc, totN, totN_add f m n, totN, Nat.add_assoc]
theorem sumTo_is (f : Nat → Nat) : ∀ k b, sumTo f k b = totN (fun i => f (b + i)) (2 ^ k)
  | 0, b => by simp [sumTo, totN]
  | k + 1, b => by
    rw [sumTo, sumTo_is f k, sumTo_is f k, Nat.pow_succ, show 2 ^ k * 2 = 2 ^ k + 2 ^ k by omega, totN_add]
    simp only [Nat.add_assoc]

/-- D is what is reached in S from F, by steps of T between the first n. -/
structure Reach (T : Nat → Nat → Bool) (n S F D : Nat) : Prop where
  sub : ∀ i, D.testBit i = true → S.testBit i = true
  start : ∀ i, S.testBit i = true → F.testBit i = true → D.testBit i = true
  closed : ∀ a b, a < n → b < n → T a b = true → D.testBit a = true → S.testBit b = true → D.testBit b = true
  least : ∀ E : Nat → Prop, (∀ i, S.testBit i = true → F.testBit i = true → E i) → (∀ a b, a < n → b < n → T a b = true → E a → S.testBit b = true → E b) → ∀ i, D.testBit i = true → E i
theorem Reach.unique {T : Nat → Nat → Bool} {n S F D D' : Nat} (h : Reach T n S F D) (h' : Reach T n S F D') : D = D' := by
  refine Nat.eq_of_testBit_eq fun i => ?_
  rw [Bool.eq_iff_iff]
  exact ⟨h.least (fun i => D'.testBit i = true) h'.start h'.closed i, h'.least (fun i => D.testBit i = true) h.start h.closed i⟩
/-- More is reached in more, by more steps. -/
theorem Reach.mono {T T' : Nat → Nat → Bool} {n S S' F D D' : Nat} (h : Reach T n S F D) (h' : Reach T' n S' F D') (hT : ∀ a b, a < n → b < n → T a b = true → T' a b = true) (hS : ∀ i, S.testBit i = true → S'.testBit i = true) :
    ∀ i, D.testBit i = true → D'.testBit i = true :=
  h.least (fun i => D'.testBit i = true) (fun i h1 h2 => h'.start i (hS i h1) h2) (fun a b ha hb ht h1 h2 => h'.closed a b ha hb (hT a b ha hb ht) h1 (hS b h2))
theorem Reach.congr {T T' : Nat → Nat → Bool} {n S F D : Nat} (h : Reach T n S F D) (hT : ∀ a b, a < n → b < n → T a b = T' a b) : Reach T' n S F D :=
  ⟨h.sub, h.start, fun a b ha hb ht => h.closed a b ha hb (by rw [hT a b ha hb]; exact ht), fun E h1 h2 => h.least E h1 fun a b ha hb ht => h2 a b ha hb (by rw [← hT a b ha hb]; exact ht)⟩

theorem and_zero {x y : Nat} : (x &&& y == 0) = false ↔ ∃ i, x.testBit i = true ∧ y.testBit i = true := by
  rw [beq_eq_false_iff_ne]
  constructor
  · intro h
    refine Classical.byContradiction fun hn => h (Nat.eq_of_testBit_eq fun i => ?_)
    rw [Nat.testBit_and, Nat.zero_testBit]
    cases h1 : x.testBit i <;> cases h2 : y.testBit i <;> simp
    exact hn ⟨i, h1, h2⟩
  · rintro ⟨i, h1, h2⟩ h
    have := congrArg (fun z => z.testBit i) h
    simp [Nat.testBit_and, h1, h2] at this

/-- The first column, and the last one. -/
def colL (c : Nat) : Nat → Nat
  | 0 => 0
  | r + 1 => colL c r + 2 ^ (r * c)
def colR (c r : Nat) : Nat := colL c r * 2 ^ (c - 1)
def rowLow (c : Nat) : Nat := 2 ^ c - 1
def rowHigh (c r : Nat) : Nat := rowLow c * 2 ^ ((r - 1) * c)
/-- All cells that touch some of D, with what lies beyond the board. -/
def around (c l r D : Nat) : Nat :=
  let nl := D - (D &&& l)
  let nr := D - (D &&& r)
  (nr * 2) ||| (nl / 2) ||| (D * 2 ^ c) ||| (D / 2 ^ c) ||| (nl * 2 ^ (c - 1)) ||| (nr / 2 ^ (c - 1))
def flood (c l r S : Nat) : Nat → Nat → Nat
  | 0, D => D
  | k + 1, D => flood c l r S k (D ||| (S &&& around c l r D))
def reachN (c r S F : Nat) : Nat := flood c (colL c r) (colR c r) S (c * r) (S &&& F)
def touchZ (x y : Int) : Bool := (y == 0 && (x == 1 || x == -1)) || (y == 1 && (x == 0 || x == -1)) || (y == -1 && (x == 0 || x == 1))
/-- Whether two cells touch. -/
def touchN (c a b : Nat) : Bool := touchZ ((b % c : Nat) - (a % c : Nat)) ((b / c : Nat) - (a / c : Nat))

theorem and_low (D l : Nat) : (D &&& l) % 2 = 1 ↔ D % 2 = 1 ∧ l % 2 = 1 := by
  have h0 : (D &&& l).testBit 0 = (D.testBit 0 && l.testBit 0) := Nat.testBit_and ..
  simp only [Nat.testBit_zero] at h0
  rw [Bool.eq_iff_iff] at h0
  simpa only [decide_eq_true_eq, Bool.and_eq_true] using h0
theorem less_and : ∀ (i D l : Nat), (D - (D &&& l)).testBit i = (D.testBit i && !l.testBit i)
  | 0, D, l => by
    have h0 := and_low D l
    have h1 : D &&& l ≤ D := Nat.and_le_left
    generalize D &&& l = x at *
    simp only [Nat.testBit_zero]
    rw [Bool.eq_iff_iff]
    simp only [decide_eq_true_eq, Bool.and_eq_true, Bool.not_eq_true', decide_eq_false_iff_not]
    omega
  | i + 1, D, l => by
    have h0 := and_low D l
    have h1 : D &&& l ≤ D := Nat.and_le_left
    have h2 : (D &&& l) / 2 = D / 2 &&& l / 2 := Nat.and_div_two
    have h4 : (D - (D &&& l)) / 2 = D / 2 - (D / 2 &&& l / 2) := by
      rw [← h2]
      generalize D &&& l = x at *
      omega
    rw [Nat.testBit_succ, h4, less_and i, Nat.testBit_succ, Nat.testBit_succ]
/-- What touches a cell, by the steps that lead to it. -/
theorem around_bit (c l r D b : Nat) : (around c l r D).testBit b =
    (decide (1 ≤ b) && (D.testBit (b - 1) && !r.testBit (b - 1)) || (D.testBit (b + 1) && !l.testBit (b + 1)) || (decide (c ≤ b) && D.testBit (b - c)) || D.testBit (b + c) ||
     (decide (c - 1 ≤ b) && (D.testBit (b - (c - 1)) && !l.testBit (b - (c - 1)))) || (D.testBit (b + (c - 1)) && !r.testBit (b + (c - 1)))) := by
  unfold around
  simp only [Nat.testBit_or]
  rw [show (D - (D &&& r)) * 2 = (D - (D &&& r)) * 2 ^ 1 from rfl, show (D - (D &&& l)) / 2 = (D - (D &&& l)) / 2 ^ 1 from rfl]
  simp only [Nat.testBit_mul_two_pow, Nat.testBit_div_two_pow, less_and]

def stepB (c r a b : Nat) : Bool :=
  (a + 1 == b && !(colR c r).testBit a) || (b + 1 == a && !(colL c r).testBit a) || a + c == b || b + c == a || (a + (c - 1) == b && !(colL c r).testBit a) || (b + (c - 1) == a && !(colR c r).testBit a)
theorem step_touch : ∀ c, c < 5 → ∀ r, r < 4 → ∀ a, a < c * r → ∀ b, b < c * r → touchN c a b = stepB c r a b := by decide +kernel
theorem around_iff {c r D b : Nat} (hc : c < 5) (hr : r < 4) (hD : D < 2 ^ (c * r)) (hb : b < c * r) :
    (around c (colL c r) (colR c r) D).testBit b = true ↔ ∃ a, a < c * r ∧ touchN c a b = true ∧ D.testBit a = true := by
  have low : ∀ a, D.testBit a = true → a < c * r := fun a h => Nat.lt_of_not_le fun hn => by
    rw [Nat.testBit_lt_two_pow (Nat.lt_of_lt_of_le hD (Nat.pow_le_pow_right (by omega) hn))] at h; cases h
  rw [around_bit]
  simp only [Bool.or_eq_true, Bool.and_eq_true, decide_eq_true_eq, Bool.not_eq_true']
  constructor
  · intro h
    have key : ∃ a, D.testBit a = true ∧ stepB c r a b = true := by
      unfold stepB
      simp only [Bool.or_eq_true, Bool.and_eq_true, beq_iff_eq, Bool.not_eq_true']
      rcases h with ((((⟨h0, h1, h2⟩ | ⟨h1, h2⟩) | ⟨h0, h1⟩) | h1) | ⟨h0, h1, h2⟩) | ⟨h1, h2⟩
      · exact ⟨_, h1, .inl (.inl (.inl (.inl (.inl ⟨by omega, h2⟩))))⟩
      · exact ⟨_, h1, .inl (.inl (.inl (.inl (.inr ⟨by omega, h2⟩))))⟩
      · exact ⟨_, h1, .inl (.inl (.inl (.inr (by omega))))⟩
      · exact ⟨_, h1, .inl (.inl (.inr (by omega)))⟩
      · exact ⟨_, h1, .inl (.inr ⟨by omega, h2⟩)⟩
      · exact ⟨_, h1, .inr ⟨by omega, h2⟩⟩
    obtain ⟨a, h1, h2⟩ := key
    exact ⟨a, low a h1, by rw [step_touch c hc r hr a (low a h1) b hb]; exact h2, h1⟩
  · rintro ⟨a, ha, ht, h1⟩
    rw [step_touch c hc r hr a ha b hb] at ht
    unfold stepB at ht
    simp only [Bool.or_eq_true, Bool.and_eq_true, beq_iff_eq, Bool.not_eq_true'] at ht
    rcases ht with ((((⟨e, h2⟩ | ⟨e, h2⟩) | e) | e) | ⟨e, h2⟩) | ⟨e, h2⟩
    · exact .inl (.inl (.inl (.inl (.inl ⟨by omega, by rw [show b - 1 = a by omega]; exact ⟨h1, h2⟩⟩))))
    · exact .inl (.inl (.inl (.inl (.inr (by rw [e]; exact ⟨h1, h2⟩)))))
    · exact .inl (.inl (.inl (.inr ⟨by omega, by rw [show b - c = a by omega]; exact h1⟩)))
    · exact .inl (.inl (.inr (by rw [e]; exact h1)))
    · exact .inl (.inr ⟨by omega, by rw [show b - (c - 1) = a by omega]; exact ⟨h1, h2⟩⟩)
    · exact .inr (by rw [e]; exact ⟨h1, h2⟩)

theorem flood_le {c l r S n : Nat} (hS : S < 2 ^ n) : ∀ k D, D < 2 ^ n → flood c l r S k D < 2 ^ n
  | 0, _, h => h
  | k + 1, _, h => flood_le hS k _ (Nat.or_lt_two_pow h (Nat.lt_of_le_of_lt Nat.and_le_left hS))
theorem flood_more {c l r S : Nat} : ∀ k D i, D.testBit i = true → (flood c l r S k D).testBit i = true
  | 0, _, _, h => h
  | k + 1, D, i, h => flood_more k _ i (by rw [Nat.testBit_or, h]; rfl)
theorem flood_sub {c l r S : Nat} : ∀ k D, (∀ i, D.testBit i = true → S.testBit i = true) → ∀ i, (flood c l r S k D).testBit i = true → S.testBit i = true
  | 0, _, h => h
  | k + 1, D, h => flood_sub k _ fun i hi => by
    rw [Nat.testBit_or, Nat.testBit_and, Bool.or_eq_true, Bool.and_eq_true] at hi
    exact hi.elim (h i) fun hi => hi.1
theorem flood_least {c r S : Nat} (hc : c < 5) (hr : r < 4) (hS : S < 2 ^ (c * r)) {E : Nat → Prop} (hE : ∀ a b, a < c * r → b < c * r → touchN c a b = true → E a → S.testBit b = true → E b) :
    ∀ k D, D < 2 ^ (c * r) → (∀ i, D.testBit i = true → E i) → ∀ i, (flood c (colL c r) (colR c r) S k D).testBit i = true → E i
  | 0, _, _, h => h
  | k + 1, D, hD, h => flood_least hc hr hS hE k _ (Nat.or_lt_two_pow hD (Nat.lt_of_le_of_lt Nat.and_le_left hS)) fun i hi => by
    rw [Nat.testBit_or, Nat.testBit_and, Bool.or_eq_true, Bool.and_eq_true] at hi
    rcases hi with hi | ⟨h1, h2⟩
    · exact h i hi
    · have hi : i < c * r := Nat.lt_of_not_le fun hn => by
        rw [Nat.testBit_lt_two_pow (Nat.lt_of_lt_of_le hS (Nat.pow_le_pow_right (by omega) hn))] at h1; cases h1
      obtain ⟨a, ha, ht, hd⟩ := (around_iff hc hr hD hi).1 h2
      exact hE a i ha hi ht (h a hd) h1
def closedN (c r S D : Nat) : Bool := D ||| (S &&& around c (colL c r) (colR c r) D) == D
theorem reachN_is {c r S F : Nat} (hc : c < 5) (hr : r < 4) (hS : S < 2 ^ (c * r)) (hcl : closedN c r S (reachN c r S F) = true) : Reach (touchN c) (c * r) S F (reachN c r S F) := by
  have h0 : S &&& F < 2 ^ (c * r) := Nat.lt_of_le_of_lt Nat.and_le_left hS
  have hlt : reachN c r S F < 2 ^ (c * r) := flood_le hS _ _ h0
  refine ⟨flood_sub _ _ fun i hi => ?_, fun i h1 h2 => flood_more _ _ i (by rw [Nat.testBit_and, h1, h2]; rfl), fun a b ha hb ht h1 h2 => ?_, fun E h1 h2 => flood_least hc hr hS h2 _ _ h0 fun i hi => ?_⟩
  · rw [Nat.testBit_and, Bool.and_eq_true] at hi; exact hi.1
  · unfold closedN at hcl
    rw [beq_iff_eq] at hcl
    rw [← hcl, Nat.testBit_or, Nat.testBit_and, h2, (around_iff hc hr hlt hb).2 ⟨a, ha, ht, h1⟩]
    simp
  · rw [Nat.testBit_and, Bool.and_eq_true] at hi; exact h1 i hi.1 hi.2

def darkN (c r s : Nat) : Bool := !(reachN c r s (colL c r) &&& colR c r == 0)
def lightN (c r s : Nat) : Bool := !(reachN c r (2 ^ (c * r) - 1 - s) (rowLow c) &&& rowHigh c r == 0)
/-- Both floods have come to their end, and just one of both leads across. -/
def hexB (c r s : Nat) : Bool :=
  let d := reachN c r s (colL c r)
  let u := 2 ^ (c * r) - 1 - s
  let e := reachN c r u (rowLow c)
  closedN c r s d && (closedN c r u e && ((d &&& colR c r == 0) != (e &&& rowHigh c r == 0)))
theorem hex_11 : allTo (hexB 1 1) 1 0 = true := by decide +kernel
theorem hex_12 : allTo (hexB 1 2) 2 0 = true := by decide +kernel
theorem hex_13 : allTo (hexB 1 3) 3 0 = true := by decide +kernel
theorem hex_21 : allTo (hexB 2 1) 2 0 = true := by decide +kernel
theorem hex_22 : allTo (hexB 2 2) 4 0 = true := by decide +kernel
theorem hex_23 : allTo (hexB 2 3) 6 0 = true := by decide +kernel
theorem hex_31 : allTo (hexB 3 1) 3 0 = true := by decide +kernel
theorem hex_32 : allTo (hexB 3 2) 6 0 = true := by decide +kernel
theorem hex_33 : allTo (hexB 3 3) 9 0 = true := by decide +kernel
theorem hex_41 : allTo (hexB 4 1) 4 0 = true := by decide +kernel
theorem hex_42 : allTo (hexB 4 2) 8 0 = true := by decide +kernel
theorem hex_43 : allTo (hexB 4 3) 12 0 = true := by decide +kernel
theorem hex_all {c r s : Nat} (hc : 1 ≤ c ∧ c ≤ 4) (hr : 1 ≤ r ∧ r ≤ 3) (hs : s < 2 ^ (c * r)) : hexB c r s = true := by
  have h : allTo (hexB c r) (c * r) 0 = true := by
    rcases (show c = 1 ∨ c = 2 ∨ c = 3 ∨ c = 4 by omega) with rfl | rfl | rfl | rfl <;> rcases (show r = 1 ∨ r = 2 ∨ r = 3 by omega) with rfl | rfl | rfl
    · exact hex_11
    · exact hex_12
    · exact hex_13
    · exact hex_21
    · exact hex_22
    · exact hex_23
    · exact hex_31
    · exact hex_32
    · exact hex_33
    · exact hex_41
    · exact hex_42
    · exact hex_43
  have := (allTo_iff _ _).1 h s hs
  rwa [Nat.zero_add] at this
/-- Always just one of both leads across. -/
theorem hex {c r s : Nat} (hc : 1 ≤ c ∧ c ≤ 4) (hr : 1 ≤ r ∧ r ≤ 3) (hs : s < 2 ^ (c * r)) : darkN c r s = !lightN c r s := by
  have := hex_all hc hr hs
  unfold hexB at this
  simp only [Bool.and_eq_true] at this
  obtain ⟨-, -, h⟩ := this
  unfold darkN lightN
  revert h
  cases (reachN c r s (colL c r) &&& colR c r == 0) <;> cases (reachN c r (2 ^ (c * r) - 1 - s) (rowLow c) &&& rowHigh c r == 0) <;> simp
theorem dark_reach {c r s : Nat} (hc : 1 ≤ c ∧ c ≤ 4) (hr : 1 ≤ r ∧ r ≤ 3) (hs : s < 2 ^ (c * r)) : Reach (touchN c) (c * r) s (colL c r) (reachN c r s (colL c r)) := by
  have := hex_all hc hr hs
  unfold hexB at this
  simp only [Bool.and_eq_true] at this
  exact reachN_is (by omega) (by omega) hs this.1
theorem light_reach {c r s : Nat} (hc : 1 ≤ c ∧ c ≤ 4) (hr : 1 ≤ r ∧ r ≤ 3) (hs : s < 2 ^ (c * r)) : Reach (touchN c) (c * r) (2 ^ (c * r) - 1 - s) (rowLow c) (reachN c r (2 ^ (c * r) - 1 - s) (rowLow c)) := by
  have := hex_all hc hr hs
  unfold hexB at this
  simp only [Bool.and_eq_true] at this
  have hp := Nat.one_le_two_pow (n := c * r)
  exact reachN_is (by omega) (by omega) (by omega) this.2.1
/-- Whatever has been reached tells whether dark cells lead across, and light ones. -/
theorem dark_is {c r s D : Nat} (hc : 1 ≤ c ∧ c ≤ 4) (hr : 1 ≤ r ∧ r ≤ 3) (hs : s < 2 ^ (c * r)) (h : Reach (touchN c) (c * r) s (colL c r) D) : (!(D &&& colR c r == 0)) = darkN c r s := by
  rw [h.unique (dark_reach hc hr hs)]; rfl
theorem light_is {c r s D : Nat} (hc : 1 ≤ c ∧ c ≤ 4) (hr : 1 ≤ r ∧ r ≤ 3) (hs : s < 2 ^ (c * r)) (h : Reach (touchN c) (c * r) (2 ^ (c * r) - 1 - s) (rowLow c) D) : (!(D &&& rowHigh c r == 0)) = lightN c r s := by
  rw [h.unique (light_reach hc hr hs)]; rfl
theorem across_mono {D D' t : Nat} (h : ∀ i, D.testBit i = true → D'.testBit i = true) (hd : (!(D &&& t == 0)) = true) : (!(D' &&& t == 0)) = true := by
  simp only [Bool.not_eq_true'] at hd ⊢
  obtain ⟨i, h1, h2⟩ := and_zero.1 hd
  exact and_zero.2 ⟨i, h i h1, h2⟩
/-- With more dark cells it still holds. -/
theorem dark_mono {c r s s' : Nat} (hc : 1 ≤ c ∧ c ≤ 4) (hr : 1 ≤ r ∧ r ≤ 3) (hs' : s' < 2 ^ (c * r)) (hs : s < 2 ^ (c * r)) (h : ∀ i, s.testBit i = true → s'.testBit i = true) (hd : darkN c r s = true) : darkN c r s' = true :=
  across_mono ((dark_reach hc hr hs).mono (dark_reach hc hr hs') (fun _ _ _ _ h => h) h) hd
/-- With fewer dark cells light ones still lead. -/
theorem light_mono {c r s s' : Nat} (hc : 1 ≤ c ∧ c ≤ 4) (hr : 1 ≤ r ∧ r ≤ 3) (hs' : s' < 2 ^ (c * r)) (hs : s < 2 ^ (c * r)) (h : ∀ i, s'.testBit i = true → s.testBit i = true) (hd : lightN c r s = true) : lightN c r s' = true := by
  cases hl : lightN c r s' with
  | true => rfl
  | false =>
    have h1 := hex hc hr hs'
    rw [hl] at h1
    have h2 := dark_mono hc hr hs hs' h h1
    rw [hex hc hr hs, hd] at h2
    cases h2
end Go.Proofs.Ytdacfeebidhgnaa
