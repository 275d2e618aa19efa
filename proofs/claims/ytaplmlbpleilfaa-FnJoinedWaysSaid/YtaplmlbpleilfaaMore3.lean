/- What the law on rings asks, of a net and a state. -/
import Derived.Test.YtaplmlbpleilfaaMore2
namespace Go.Proofs.Ytaplmlbpleilfaa
open Go.RowKit
set_option maxRecDepth 100000

theorem sub_bit9 : ∀ k, k < 9 → ∀ m, m < 512 → Nat.testBit m k = true → 2 ^ k ≤ m ∧ ∀ i, i < 9 → Nat.testBit (m - 2 ^ k) i = (Nat.testBit m i && decide (i ≠ k)) := by decide +kernel
theorem sub_bit {m k : Nat} (hm : m < 512) (hk : k < 9) (hb : bits m k = true) : 2 ^ k ≤ m ∧ ∀ i, bits ((m - 2 ^ k : Nat) : Int) i = (bits m i && decide (i ≠ k)) := by
  have h := sub_bit9 k hk m hm (by simpa [bits] using hb)
  refine ⟨h.1, fun i => ?_⟩
  simp only [bits, Int.toNat_natCast]
  by_cases hi : i < 9
  · exact h.2 i hi
  · have h2 : (2 : Nat) ^ 9 ≤ 2 ^ i := Nat.pow_le_pow_right (by omega) (by omega)
    have h3 : m < 2 ^ i := by omega
    rw [Nat.testBit_lt_two_pow h3, Nat.testBit_lt_two_pow (Nat.lt_of_le_of_lt (Nat.sub_le _ _) h3)]; rfl
theorem free_iff {n s : Int} {es : List (Int × Int)} (h : stateOkB n es s = true) : freeB n es s = true ↔ pcs (endsOf es) (bits s) es.length n.toNat + card (bits s) es.length = n.toNat := by
  have h1 := (netOkB_iff.1 (stateOkB_net h)).1
  have h2 : piecesB n es s = pcs (endsOf es) (bits s) es.length n.toNat := rfl
  have h3 := pcs_le (endsOf es) (bits s) es.length n.toNat
  simp only [freeB, h, Bool.true_and, decide_eq_true_eq, rankI_of h, there_card h, h2]
  omega
theorem less_ok {n : Int} {es : List (Int × Int)} {m k : Nat} (h : stateOkB n es m = true) (hk : k < es.length) (hb : bits m k = true) : 2 ^ k ≤ m ∧ stateOkB n es ((m - 2 ^ k : Nat) : Int) = true ∧ ∀ i, bits ((m - 2 ^ k : Nat) : Int) i = (bits m i && decide (i ≠ k)) := by
  have hn := stateOkB_net h
  obtain ⟨m', e, hm, hm5⟩ := state_nat h
  obtain rfl : m = m' := by omega
  have h9 := (netOkB_iff.1 hn).2.1
  have h1 := sub_bit hm5 (show k < 9 by omega) hb
  exact ⟨h1.1, state_of hn (Nat.lt_of_le_of_lt (Nat.sub_le _ _) hm), h1.2⟩
theorem free_sub {n : Int} {es : List (Int × Int)} {m k : Nat} (h : stateOkB n es m = true) (hk : k < es.length) (hb : bits m k = true) (hf : freeB n es m = true) : freeB n es ((m - 2 ^ k : Nat) : Int) = true := by
  have h1 := less_ok h hk hb
  refine (free_iff h1.2.1).2 (free_less (endsOf_ok (stateOkB_net h)) hk hb (fun i => ?_) ((free_iff h).1 hf)).1
  rw [h1.2.2 i]; simp
theorem free_zero {n : Int} {es : List (Int × Int)} (h : netOkB n es = true) : freeB n es 0 = true := by
  refine (free_iff (state_zero h)).2 ?_
  have hb : ∀ i, bits 0 i = false := fun i => by simp [bits]
  rw [pcs_none fun i _ => hb i, card_ge (bits 0) 0 es.length (by omega) (fun i _ _ => hb i)]; rfl
def eachJ (n : Int) (es : List (Int × Int)) (m : Nat) : Nat → Bool
  | 0 => true
  | k + 1 => eachJ n es m k && (if bits m k = true then decide (piecesI n es ((m - 2 ^ k : Nat) : Int) = piecesI n es m + 1) else true)
theorem eachJ_iff (n : Int) (es : List (Int × Int)) (m : Nat) : ∀ k, eachJ n es m k = true ↔ ∀ j, j < k → bits m j = true → piecesI n es ((m - 2 ^ j : Nat) : Int) = piecesI n es m + 1
  | 0 => by simp [eachJ]
  | k + 1 => by
    rw [eachJ, Bool.and_eq_true, eachJ_iff n es m k]
    constructor
    · rintro ⟨h1, h2⟩ j hj hb
      by_cases e : j = k
      · subst e; rw [if_pos hb] at h2; simpa using h2
      · exact h1 j (by omega) hb
    · intro h
      refine ⟨fun j hj hb => h j (by omega) hb, ?_⟩
      split
      · rename_i hb; simpa using h k (by omega) hb
      · rfl
theorem free_each {n : Int} {es : List (Int × Int)} {m : Nat} (h : stateOkB n es m = true) : eachJ n es m es.length = freeB n es m := by
  have hE := endsOf_ok (stateOkB_net h)
  rw [Bool.eq_iff_iff, eachJ_iff, free_iff h]
  have hp : ∀ k, k < es.length → bits m k = true → (piecesI n es ((m - 2 ^ k : Nat) : Int) = piecesI n es m + 1 ↔ pcs (endsOf es) (fun i => bits m i && decide (i ≠ k)) es.length n.toNat = pcs (endsOf es) (bits m) es.length n.toNat + 1) := by
    intro k hk hb
    have h1 := less_ok h hk hb
    have h2 : piecesB n es ((m - 2 ^ k : Nat) : Int) = pcs (endsOf es) (fun i => bits m i && decide (i ≠ k)) es.length n.toNat := pcs_ext hE fun i _ => h1.2.2 i
    have h3 : piecesB n es m = pcs (endsOf es) (bits m) es.length n.toNat := rfl
    rw [(piecesI_lt h1.2.1).1, (piecesI_lt h).1, h2, h3]
    omega
  constructor
  · intro hj
    exact free_of hE fun k hk hb => (hp k hk hb).1 (hj k hk hb)
  · intro hf k hk hb
    exact (hp k hk hb).2 (free_less hE hk hb (fun i => by simp) hf).2
theorem free_not {n s : Int} {es : List (Int × Int)} (h : stateOkB n es s = false) : freeB n es s = false := by simp [freeB, h]
theorem sub_wrap (m k : Nat) (hm : m < 512) (hk : k < 9) (h : 2 ^ k ≤ m) : IntKind.i64.wrap ((m : Int) - wrap64 (2 ^ k)) = ((m - 2 ^ k : Nat) : Int) := by
  have h1 : wrap64 (2 ^ k) = (2 : Int) ^ k := by
    have : k = 0 ∨ k = 1 ∨ k = 2 ∨ k = 3 ∨ k = 4 ∨ k = 5 ∨ k = 6 ∨ k = 7 ∨ k = 8 := by omega
    rcases this with rfl | rfl | rfl | rfl | rfl | rfl | rfl | rfl | rfl <;> decide +kernel
  rw [h1, pow_cast, ← Int.natCast_sub h]
  have := Nat.sub_le m (2 ^ k)
  exact IntWalk.i64_in _ (by generalize m - 2 ^ k = d at *; omega)
end Go.Proofs.Ytaplmlbpleilfaa
