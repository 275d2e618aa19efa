/- What the rows of truths of chapter 8 hold. -/
import Derived.Test.YtlcgbmeneajfoaaVal8
import Derived.Test.YtlcgbmeneajfoaaTruth
namespace Go.Proofs.Ytlcgbmeneajfoaa
open Go.RowKit
set_option maxRecDepth 100000

def hitAll (ns : List Nat) (s : Nat) : Bool := ns.all fun p => !decide (p &&& s = 0)
theorem rest_and {T p s : Nat} (hp : p < 2 ^ T) (hs : s < 2 ^ T) : p &&& rest T s = p ↔ p &&& s = 0 := by
  constructor
  · intro h
    apply Nat.eq_of_testBit_eq
    intro i
    have hi := congrArg (fun x => Nat.testBit x i) h
    simp only [Nat.testBit_and, rest_bit hs] at hi
    rw [Nat.testBit_and, Nat.zero_testBit]
    revert hi
    cases p.testBit i <;> cases s.testBit i <;> simp
  · intro h
    apply Nat.eq_of_testBit_eq
    intro i
    have hi := congrArg (fun x => Nat.testBit x i) h
    simp only [Nat.testBit_and, Nat.zero_testBit] at hi
    rw [Nat.testBit_and, rest_bit hs]
    by_cases hT : i < T
    · rw [decide_eq_true hT]
      revert hi
      cases p.testBit i <;> cases s.testBit i <;> simp
    · rw [Nat.testBit_lt_two_pow (Nat.lt_of_lt_of_le hp (Nat.pow_le_pow_right (by omega) (show T ≤ i by omega)))]
      simp
theorem hitAll_dual {T s : Nat} {ns : List Nat} (hs : s < 2 ^ T) (hn : ∀ x ∈ ns, x < 2 ^ T) : dual T (famB ns) s = hitAll ns s := by
  have h : dual T (famB ns) s = true ↔ hitAll ns s = true := by
    unfold dual hitAll
    rw [Bool.not_eq_true', ← Bool.not_eq_true, famB_iff, List.all_eq_true]
    constructor
    · intro h x hx
      cases hd : decide (x &&& s = 0) with
      | false => rfl
      | true => exact absurd ⟨x, hx, (rest_and (hn x hx) hs).2 (of_decide_eq_true hd)⟩ h
    · rintro h ⟨x, hx, he⟩
      have := h x hx
      rw [decide_eq_true ((rest_and (hn x hx) hs).1 he)] at this
      cases this
  cases h1 : dual T (famB ns) s <;> cases h2 : hitAll ns s <;> simp [h1, h2] at h ⊢
theorem hitAll_take_succ {s k : Nat} {ns : List Nat} (hk : k < ns.length) : hitAll (ns.take (k + 1)) s = (hitAll (ns.take k) s && !decide (ns.getD k 0 &&& s = 0)) := by
  unfold hitAll
  rw [List.take_add_one, List.all_append, List.getD_eq_getElem?_getD, List.getElem?_eq_getElem hk]
  simp
theorem putB_putB (A : Nat → Bool) (k : Nat) (a b : Bool) : putB (putB A k a) k b = putB A k b := by
  funext i; unfold putB; by_cases h : i = k <;> simp [h]
theorem putB_at (A : Nat → Bool) (k : Nat) (a : Bool) : putB A k a k = a := by simp [putB]
def mixB (A B : Nat → Bool) (k i : Nat) : Bool := if i < k then B i else A i
theorem mixB_zero (A B : Nat → Bool) : mixB A B 0 = A := by funext i; simp [mixB]
theorem mixB_put (A B : Nat → Bool) (k : Nat) : putB (mixB A B k) k (B k) = mixB A B (k + 1) := by
  funext i
  unfold putB mixB
  by_cases h : i = k
  · subst h; simp
  · by_cases h2 : i < k
    · simp [h, h2, show i < k + 1 by omega]
    · simp [h, h2, show ¬ i < k + 1 by omega]
theorem mixB_at (A B : Nat → Bool) (k : Nat) : mixB A B k k = A k := by simp [mixB]
theorem mixB_in {A B : Nat → Bool} {k i : Nat} (h : i < k) : mixB A B k i = B i := by simp [mixB, h]
end Go.Proofs.Ytlcgbmeneajfoaa
