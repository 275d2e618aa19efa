/- Bits of numbers: or, and, a bit put in or taken out, for all numbers below 2 taken 62 times. -/
import Derived.Test.YtdacfeebidhgnaaBoard
import Derived.Test.YtdacfeebidhgnaaSpec2
namespace Go.Proofs.Ytdacfeebidhgnaa
open Go.RowKit
set_option maxRecDepth 100000

theorem ofInt_nat (x : Nat) : BitVec.ofInt 64 (x : Int) = BitVec.ofNat 64 x := by
  apply BitVec.eq_of_toNat_eq
  rw [BitVec.toNat_ofInt, BitVec.toNat_ofNat]
  omega
theorem ofNat_toNat {x : Nat} (h : x < 2 ^ 62) : (BitVec.ofNat 64 x).toNat = x := by
  rw [BitVec.toNat_ofNat]; exact Nat.mod_eq_of_lt (by omega)
theorem or_nat {x y : Nat} (hx : x < 2 ^ 62) (hy : y < 2 ^ 62) : Go.bits .or .i64 (x : Int) (y : Int) = ((x ||| y : Nat) : Int) := by
  show IntKind.i64.wrap (((BitVec.ofInt 64 x ||| BitVec.ofInt 64 y).toNat : Nat) : Int) = _
  rw [ofInt_nat, ofInt_nat, BitVec.toNat_or, ofNat_toNat hx, ofNat_toNat hy]
  have := Nat.or_lt_two_pow hx hy
  exact IntWalk.i64_in _ (by omega)
theorem and_nat {x y : Nat} (hx : x < 2 ^ 62) (hy : y < 2 ^ 62) : Go.bits .and .i64 (x : Int) (y : Int) = ((x &&& y : Nat) : Int) := by
  show IntKind.i64.wrap (((BitVec.ofInt 64 x &&& BitVec.ofInt 64 y).toNat : Nat) : Int) = _
  rw [ofInt_nat, ofInt_nat, BitVec.toNat_and, ofNat_toNat hx, ofNat_toNat hy]
  have : x &&& y ≤ x := Nat.and_le_left
  exact IntWalk.i64_in _ (by omega)
theorem andNot_nat {x : Nat} (y : Nat) (hx : x < 2 ^ 62) : Go.bits .andNot .i64 (x : Int) (y : Int) = ((x - (x &&& y) : Nat) : Int) := by
  show IntKind.i64.wrap (((BitVec.ofInt 64 x &&& ~~~ BitVec.ofInt 64 y).toNat : Nat) : Int) = _
  have e : (BitVec.ofInt 64 x &&& ~~~ BitVec.ofInt 64 y).toNat = x - (x &&& y) := by
    refine Nat.eq_of_testBit_eq fun i => ?_
    rw [less_and]
    rw [ofInt_nat, ofInt_nat]
    by_cases hi : i < 64
    · rw [BitVec.testBit_toNat, BitVec.getLsbD_and, BitVec.getLsbD_not]
      simp only [BitVec.getLsbD_ofNat, hi, decide_true, Bool.true_and]
    · have h1 : (BitVec.ofNat 64 x &&& ~~~ BitVec.ofNat 64 y).toNat < 2 ^ 64 := BitVec.isLt _
      rw [Nat.testBit_lt_two_pow (Nat.lt_of_lt_of_le h1 (Nat.pow_le_pow_right (by omega) (by omega))), Nat.testBit_lt_two_pow (Nat.lt_of_lt_of_le hx (Nat.pow_le_pow_right (by omega) (by omega)))]
      rfl
  rw [e]
  exact IntWalk.i64_in _ (by omega)
theorem pow_named62 {l : Nat} (h : l ≤ 61) : ∃ P : Nat, 2 ^ l = P ∧ 1 ≤ P ∧ P ≤ 2305843009213693952 ∧ wrap64 (2 ^ l) = (P : Int) ∧ IntKind.i64.wrap (2 ^ l) = (P : Int) := by
  have h2 : 2 ^ l ≤ 2 ^ 61 := Nat.pow_le_pow_right (by omega) h
  have h1 : 1 ≤ 2 ^ l := Nat.one_le_two_pow
  have e : (2 : Int) ^ l = ((2 ^ l : Nat) : Int) := by rw [Int.natCast_pow]; rfl
  refine ⟨2 ^ l, rfl, h1, h2, ?_, ?_⟩
  · rw [e]; generalize 2 ^ l = P at *; unfold wrap64; omega
  · rw [e, IntWalk.i64_left]; generalize 2 ^ l = P at *; unfold wrap64; omega
theorem bit_tmod (x k : Nat) : ((x : Int) / 2 ^ k).tmod 2 = if x.testBit k = true then 1 else 0 := by
  have e : (x : Int) / 2 ^ k = ((x / 2 ^ k : Nat) : Int) := by rw [Int.natCast_ediv, Int.natCast_pow]; rfl
  have h : x.testBit k = decide (x / 2 ^ k % 2 = 1) := by rw [Nat.testBit_eq_decide_div_mod_eq]
  rw [e, Int.tmod_eq_emod_of_nonneg (Int.natCast_nonneg _), h]
  generalize x / 2 ^ k = y
  by_cases hy : y % 2 = 1
  · simp [hy]; omega
  · simp [hy]; omega
theorem or_small {x y : Nat} (hx : x ≤ 8192) (hy : y ≤ 8192) : Go.bits .or .i64 (x : Int) (y : Int) = ((x ||| y : Nat) : Int) := or_nat (by omega) (by omega)
theorem and_small {x y : Nat} (hx : x ≤ 8192) (hy : y ≤ 8192) : Go.bits .and .i64 (x : Int) (y : Int) = ((x &&& y : Nat) : Int) := and_nat (by omega) (by omega)
theorem andNot_small {x : Nat} (y : Nat) (hx : x ≤ 8192) : Go.bits .andNot .i64 (x : Int) (y : Int) = ((x - (x &&& y) : Nat) : Int) := andNot_nat y (by omega)
theorem pow_named12 {l : Nat} (h : l ≤ 13) : ∃ P : Nat, 2 ^ l = P ∧ 1 ≤ P ∧ P ≤ 8192 ∧ wrap64 (2 ^ l) = (P : Int) ∧ IntKind.i64.wrap (2 ^ l) = (P : Int) := by
  obtain ⟨P, h1, h2, _, h4, h5⟩ := pow_named62 (show l ≤ 61 by omega)
  refine ⟨P, h1, h2, ?_, h4, h5⟩
  rw [← h1]
  exact Nat.pow_le_pow_right (by omega) h
end Go.Proofs.Ytdacfeebidhgnaa
