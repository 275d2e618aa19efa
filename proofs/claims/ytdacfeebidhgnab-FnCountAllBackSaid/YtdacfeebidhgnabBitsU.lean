/- Bits of unsigned numbers: or, and, a bit put out. -/
import Derived.Test.YtdacfeebidhgnabBits7
namespace Go.Proofs.Ytdacfeebidhgnab
open Go.RowKit
set_option maxRecDepth 100000

theorem ofNat_u {x : Nat} (h : x < 2 ^ 64) : (BitVec.ofNat 64 x).toNat = x := by
  rw [BitVec.toNat_ofNat]; exact Nat.mod_eq_of_lt h
theorem or_u {x y : Nat} (hx : x < 2 ^ 64) (hy : y < 2 ^ 64) : Go.bits .or .u64 (x : Int) (y : Int) = ((x ||| y : Nat) : Int) := by
  show IntKind.u64.wrap (((BitVec.ofInt 64 x ||| BitVec.ofInt 64 y).toNat : Nat) : Int) = _
  rw [ofInt_nat, ofInt_nat, BitVec.toNat_or, ofNat_u hx, ofNat_u hy]
  have := Nat.or_lt_two_pow hx hy
  exact IntWalk.u64_in _ (by omega)
theorem and_u {x y : Nat} (hx : x < 2 ^ 64) (hy : y < 2 ^ 64) : Go.bits .and .u64 (x : Int) (y : Int) = ((x &&& y : Nat) : Int) := by
  show IntKind.u64.wrap (((BitVec.ofInt 64 x &&& BitVec.ofInt 64 y).toNat : Nat) : Int) = _
  rw [ofInt_nat, ofInt_nat, BitVec.toNat_and, ofNat_u hx, ofNat_u hy]
  have : x &&& y ≤ x := Nat.and_le_left
  exact IntWalk.u64_in _ (by omega)
theorem andNot_u {x : Nat} (y : Nat) (hx : x < 2 ^ 64) : Go.bits .andNot .u64 (x : Int) (y : Int) = ((x - (x &&& y) : Nat) : Int) := by
  show IntKind.u64.wrap (((BitVec.ofInt 64 x &&& ~~~ BitVec.ofInt 64 y).toNat : Nat) : Int) = _
  have e : (BitVec.ofInt 64 x &&& ~~~ BitVec.ofInt 64 y).toNat = x - (x &&& y) := by
    refine Nat.eq_of_testBit_eq fun i => ?_
    rw [less_and]
    rw [ofInt_nat, ofInt_nat]
    by_cases hi : i < 64
    · rw [BitVec.testBit_toNat, BitVec.getLsbD_and, BitVec.getLsbD_not]
      simp only [BitVec.getLsbD_ofNat, hi, decide_true, Bool.true_and]
    · have h1 : (BitVec.ofNat 64 x &&& ~~~ BitVec.ofNat 64 y).toNat < 2 ^ 64 := BitVec.isLt _
      rw [Nat.testBit_lt_two_pow (Nat.lt_of_lt_of_le h1 (Nat.pow_le_pow_right (by omega) (by omega))), Nat.testBit_lt_two_pow (Nat.lt_of_lt_of_le hx (Nat.pow_le_pow_right (by omega) (by omega)))]
      rfl
  rw [e]
  exact IntWalk.u64_in _ (by omega)
theorem or_us {x y : Nat} (hx : x ≤ 8192) (hy : y ≤ 8192) : Go.bits .or .u64 (x : Int) (y : Int) = ((x ||| y : Nat) : Int) := or_u (by omega) (by omega)
theorem and_us {x y : Nat} (hx : x ≤ 8192) (hy : y ≤ 8192) : Go.bits .and .u64 (x : Int) (y : Int) = ((x &&& y : Nat) : Int) := and_u (by omega) (by omega)
theorem andNot_us {x : Nat} (y : Nat) (hx : x ≤ 8192) : Go.bits .andNot .u64 (x : Int) (y : Int) = ((x - (x &&& y) : Nat) : Int) := andNot_u y (by omega)
/-- All bits turned. -/
def notU (s : Nat) : Nat := 2 ^ 64 - 1 - s
theorem notU_lt (s : Nat) : notU s < 2 ^ 64 := by unfold notU; omega
theorem notU_bit {s n i : Nat} (hs : s < 2 ^ n) (hn : n ≤ 13) (hi : i < n) : (notU s).testBit i = !s.testBit i := by
  have hs' : s < 2 ^ 64 := Nat.lt_of_lt_of_le hs (Nat.pow_le_pow_right (by omega) (by omega))
  unfold notU
  rw [show 2 ^ 64 - 1 - s = 2 ^ 64 - (s + 1) by omega, Nat.testBit_two_pow_sub_succ hs']
  simp; omega
end Go.Proofs.Ytdacfeebidhgnab
