/- Boards of the reference: sides, TouchOk, DarkOk, LightOk, CountDark. -/
import Derived.Test.YtcmomghlepmogaaSpec7
import Derived.Test.YtcmomghlepmogaaTab7
import Derived.BigQuiet
import Derived.BigRegion
namespace Go.Proofs.Ytcmomghlepmogaa
open Go.RowKit
set_option maxRecDepth 100000

theorem side_col : ∀ c, c < 5 → ∀ k, k < 3 → 1 ≤ c → (colL c k ||| 2 ^ (k * c) = colL c (k + 1)) ∧ (colL c k * 2 ^ (c - 1) ||| 2 ^ (k * c + c - 1) = colL c (k + 1) * 2 ^ (c - 1)) ∧ colL c k < 4096 ∧ colL c k * 2 ^ (c - 1) < 4096 := by decide +kernel
theorem side_row : ∀ c, c < 5 → ∀ q, q < 3 → ∀ k, k < c → ((2 ^ k - 1) ||| 2 ^ k = 2 ^ (k + 1) - 1) ∧ ((2 ^ k - 1) * 2 ^ (q * c) ||| 2 ^ (k + q * c) = (2 ^ (k + 1) - 1) * 2 ^ (q * c)) ∧ 2 ^ k - 1 < 4096 ∧ (2 ^ k - 1) * 2 ^ (q * c) < 4096 := by decide +kernel

def inB (a n : Int) : Bool := decide (0 ≤ a) && decide (a ≤ n - 1)
theorem inB_nat {a : Int} {n : Nat} (h : inB a n = true) : ∃ A : Nat, a = A ∧ A < n := by
  simp only [inB, Bool.and_eq_true, decide_eq_true_eq] at h
  exact ⟨a.toNat, by omega, by omega⟩
theorem inB_of {A n : Nat} (h : A < n) : inB (A : Nat) (n : Nat) = true := by simp only [inB, Bool.and_eq_true, decide_eq_true_eq]; omega
def touchI (a b c r : Int) : Bool := boardB c r && (inB a (c * r) && (inB b (c * r) && touchN c.toNat a.toNat b.toNat))
def stateB (s c r : Int) : Bool := boardB c r && inB s ((2 ^ (c.toNat * r.toNat) : Nat) : Int)
def darkI (s c r : Int) : Bool := stateB s c r && darkN c.toNat r.toNat s.toNat
def lightI (s c r : Int) : Bool := stateB s c r && lightN c.toNat r.toNat s.toNat
def cntDI (c r : Int) : Int := if boardB c r = true then (tabD c.toNat r.toNat : Nat) else -1
theorem prod_small {C R : Nat} (hc : 1 ≤ C ∧ C ≤ 4) (hr : 1 ≤ R ∧ R ≤ 3) : ∃ n, C * R = n ∧ 1 ≤ n ∧ n ≤ 12 ∧ ((C : Int) * (R : Int) = (n : Int)) ∧ IntKind.i64.wrap ((C : Int) * (R : Int)) = (n : Int) := by
  have h : C * R ≤ 12 := Nat.mul_le_mul hc.2 hr.2
  have h1 : 1 ≤ C * R := Nat.mul_le_mul hc.1 hr.1
  refine ⟨C * R, rfl, h1, h, by rw [Int.natCast_mul], ?_⟩
  rw [← Int.natCast_mul]; exact IntWalk.i64_in _ (by omega)

/-- Four sides, in a row of the call's own. -/
def SidesAt (w : World) (g c : Nat) (xs : List Int) (u : World) : Prop := OwnI u w.heap.size (.slice (some ⟨g, 0, none⟩) 4 c) xs ∧ Below w.heap.size w u
theorem SidesAt.on {w u : World} {g c : Nat} {xs : List Int} (h : SidesAt w g c xs u) : ∀ w', Below u.heap.size u w' → SidesAt w g c xs w' := fun _ hb => ⟨h.1.below hb h.1.lt, h.2.trans (hb.mono h.2.size)⟩
theorem SidesAt.drew {w u : World} {g c : Nat} {xs : List Int} (h : SidesAt w g c xs u) : SidesAt w g c xs u.drew := ⟨h.1.drew, h.2.drew⟩
theorem GotInts.four {w w' : World} {a b c d : Int} {e : Ending} (h : GotInts w [a, b, c, d] e w') : ∃ g k, e = .returned (.slice (some ⟨g, 0, none⟩) 4 k) ∧ SidesAt w g k [a, b, c, d] w' := by
  obtain ⟨A, k, rfl, own, hb⟩ := h
  rcases own.form with ⟨_, h0⟩ | ⟨g, k', hv, _, _⟩
  · cases h0
  · injection hv with hA _ hc
    subst hA
    exact ⟨g, k, rfl, own, hb⟩
theorem reach_lt {T : Nat → Nat → Bool} {n S F D m : Nat} (h : Reach T n S F D) (hS : S < 2 ^ m) : D < 2 ^ m := by
  refine Nat.lt_of_not_le fun hn => ?_
  obtain ⟨i, hi, hb⟩ := Nat.exists_ge_and_testBit_of_ge_two_pow hn
  have := h.sub i hb
  rw [Nat.testBit_lt_two_pow (Nat.lt_of_lt_of_le hS (Nat.pow_le_pow_right (by omega) hi))] at this; cases this
theorem col_small {c r : Nat} (hc : 1 ≤ c ∧ c ≤ 4) (hr : 1 ≤ r ∧ r ≤ 3) : colL c r < 4096 ∧ colR c r < 4096 ∧ rowLow c < 4096 ∧ rowHigh c r < 4096 := by
  have h : ∀ c, c < 5 → ∀ r, r < 4 → 1 ≤ c → colL c r < 4096 ∧ colR c r < 4096 ∧ rowLow c < 4096 ∧ rowHigh c r < 4096 := by decide +kernel
  exact h c (by omega) r (by omega) hc.1
theorem ne_zero_bool (x : Nat) : ((x : Int) != 0) = !(x == 0) := by
  cases h : (x == 0)
  · rw [beq_eq_false_iff_ne] at h
    simp; omega
  · rw [beq_iff_eq] at h; subst h; rfl

end Go.Proofs.Ytcmomghlepmogaa
