/- Trees of the reference: TreeOk, RingWith, CutWith. -/
import Derived.Test.YtdacfeebidhgnaaTreeP
import Derived.Test.YtdacfeebidhgnaaEdgesAt
import Derived.Test.YtdacfeebidhgnaaClass
import Derived.Test.YtdacfeebidhgnaaImpl9
namespace Go.Proofs.Ytdacfeebidhgnaa
open Go.RowKit
set_option maxRecDepth 100000

theorem ring_out {E : Nat → Nat × Nat} {m n : Nat} {T : Nat → Bool} (h : TreeP E m n T) {a : Nat} (ha : a < m) (hT : T a = false) : 2 ^ a ||| setOf (fun o => T o && decide (pcs E (lessT (moreT T a) o) m n = 1)) m = setOf (ringB E m T a) m := by
  apply Nat.eq_of_testBit_eq
  intro i
  rw [Nat.testBit_or, Nat.testBit_two_pow, setOf_bit, setOf_bit]
  by_cases hi : i < m
  · by_cases e : a = i
    · subst e; simp [hi, h.ring_at ha hT]
    · cases hTi : T i with
      | true => rw [h.ring_pcs a hi hTi]; simp [e, hi]
      | false =>
        have : ringB E m T a i = false := by simp [ringB, moreT, hTi, Ne.symm e]
        simp [this, e]
  · have e : a ≠ i := by omega
    simp [hi, e]
theorem add_or {s k : Nat} (hs : s < 512) (hk : k < 9) (hb : s.testBit k = false) : s + 2 ^ k = s ||| 2 ^ k := by
  have h1 : 2 ^ k < 2 ^ 9 := Nat.pow_lt_pow_right (by omega) (by omega)
  have h2 : s ||| 2 ^ k < 512 := Nat.or_lt_two_pow (n := 9) (by omega) h1
  have h3 : (s ||| 2 ^ k).testBit k = true := by rw [Nat.testBit_or, Nat.testBit_two_pow]; simp
  have h4 : (s ||| 2 ^ k) - 2 ^ k = s := by
    apply Nat.eq_of_testBit_eq
    intro i
    rw [less_testBit h2 hk h3, Nat.testBit_or, Nat.testBit_two_pow]
    by_cases e : k = i
    · subst e; simp [hb]
    · simp [e, Ne.symm e]
  have h5 : 2 ^ k ≤ s ||| 2 ^ k := Nat.le_of_not_lt fun h => by rw [Nat.testBit_lt_two_pow h] at h3; cases h3
  omega
theorem wrap_plus {m P r : Nat} (h : m + P = r) (hr : r < 512) : IntKind.i64.wrap ((m : Int) + (P : Int)) = (r : Int) := by rw [IntWalk.i64_in _ (by omega)]; omega
theorem wrap_minus {r Q : Nat} (h : Q ≤ r) (hr : r < 512) : IntKind.i64.wrap ((r : Int) - (Q : Int)) = ((r - Q : Nat) : Int) := by rw [IntWalk.i64_in _ (by omega)]; omega
theorem bits_more (s k : Nat) : bits ((s ||| 2 ^ k : Nat) : Int) = moreT (bits (s : Nat)) k := by
  funext i
  unfold bits moreT
  rw [Int.toNat_natCast, Int.toNat_natCast, Nat.testBit_or, Nat.testBit_two_pow]
  congr 1
  rw [decide_eq_decide]; omega
theorem bits_less {s k : Nat} (hs : s < 512) (hk : k < 9) (hb : s.testBit k = true) : bits ((s - 2 ^ k : Nat) : Int) = lessT (bits (s : Nat)) k := by
  funext i
  unfold bits lessT
  rw [Int.toNat_natCast, Int.toNat_natCast, less_testBit hs hk hb]

end Go.Proofs.Ytdacfeebidhgnaa
