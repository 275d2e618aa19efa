/- What the law on ranks asks, of a net and two states. -/
import Derived.Test.YtdacfeebidhgnaaMore2
namespace Go.Proofs.Ytdacfeebidhgnaa
open Go.RowKit
set_option maxRecDepth 100000

theorem or_i64s (a b : Nat) (ha : a < 512) (hb : b < 512) : Go.bits .or .i64 (a : Int) (b : Int) = ((a ||| b : Nat) : Int) := by
  have hx : a ||| b < 2 ^ 9 := Nat.or_lt_two_pow (by omega) (by omega)
  have h1 : (BitVec.ofInt 64 (a : Int)).toNat = a := by
    rw [BitVec.ofInt_natCast, BitVec.toNat_ofNat]; exact Nat.mod_eq_of_lt (by omega)
  have h2 : (BitVec.ofInt 64 (b : Int)).toNat = b := by
    rw [BitVec.ofInt_natCast, BitVec.toNat_ofNat]; exact Nat.mod_eq_of_lt (by omega)
  show IntKind.i64.wrap ((BitVec.ofInt 64 (a : Int) ||| BitVec.ofInt 64 (b : Int)).toNat : Int) = _
  rw [BitVec.toNat_or, h1, h2]
  exact IntWalk.i64_in _ (by omega)
theorem and_i64s (a b : Nat) (ha : a < 512) (hb : b < 512) : Go.bits .and .i64 (a : Int) (b : Int) = ((a &&& b : Nat) : Int) := by
  have hx : a &&& b < 2 ^ 9 := Nat.and_lt_two_pow _ (by omega)
  have h1 : (BitVec.ofInt 64 (a : Int)).toNat = a := by
    rw [BitVec.ofInt_natCast, BitVec.toNat_ofNat]; exact Nat.mod_eq_of_lt (by omega)
  have h2 : (BitVec.ofInt 64 (b : Int)).toNat = b := by
    rw [BitVec.ofInt_natCast, BitVec.toNat_ofNat]; exact Nat.mod_eq_of_lt (by omega)
  show IntKind.i64.wrap ((BitVec.ofInt 64 (a : Int) &&& BitVec.ofInt 64 (b : Int)).toNat : Int) = _
  rw [BitVec.toNat_and, h1, h2]
  exact IntWalk.i64_in _ (by omega)
theorem rank_there {n s : Int} {es : List (Int × Int)} (h : stateOkB n es s = true) : rankI n es s ≤ thereI n es s := by
  have := pieces_there h
  rw [rankI_of h]; omega
theorem rank_bounds {n s : Int} {es : List (Int × Int)} (h : stateOkB n es s = true) : 0 ≤ rankI n es s ∧ rankI n es s ≤ 6 := by
  have h1 := (netOkB_iff.1 (stateOkB_net h)).1
  have h2 : piecesB n es s ≤ n.toNat := pcs_le _ _ _ _
  rw [rankI_of h]; omega
theorem two_ok {n : Int} {es : List (Int × Int)} {m o : Nat} (h : stateOkB n es m = true) (h' : stateOkB n es o = true) :
    stateOkB n es ((m ||| o : Nat) : Int) = true ∧ stateOkB n es ((m &&& o : Nat) : Int) = true := by
  obtain ⟨m', e, hm, _⟩ := state_nat h
  obtain ⟨o', e', ho, _⟩ := state_nat h'
  obtain rfl : m = m' := by omega
  obtain rfl : o = o' := by omega
  exact ⟨state_of (stateOkB_net h) (Nat.or_lt_two_pow hm ho), state_of (stateOkB_net h) (Nat.and_lt_two_pow _ ho)⟩
theorem rank_two {n : Int} {es : List (Int × Int)} {m o : Nat} (h : stateOkB n es m = true) (h' : stateOkB n es o = true) :
    rankI n es ((m ||| o : Nat) : Int) + rankI n es ((m &&& o : Nat) : Int) ≤ rankI n es m + rankI n es o ∧
    rankI n es m ≤ rankI n es ((m ||| o : Nat) : Int) ∧ rankI n es o ≤ rankI n es ((m ||| o : Nat) : Int) ∧
    rankI n es ((m &&& o : Nat) : Int) ≤ rankI n es m ∧ rankI n es ((m &&& o : Nat) : Int) ≤ rankI n es o := by
  have hE := endsOf_ok (stateOkB_net h)
  have h2 := two_ok h h'
  rw [rankI_of h, rankI_of h', rankI_of h2.1, rankI_of h2.2]
  have e1 : piecesB n es ((m ||| o : Nat) : Int) = pcs (endsOf es) (fun i => bits m i || bits o i) es.length n.toNat := pcs_ext hE fun i _ => by simp [bits, Nat.testBit_or]
  have e2 : piecesB n es ((m &&& o : Nat) : Int) = pcs (endsOf es) (fun i => bits m i && bits o i) es.length n.toNat := pcs_ext hE fun i _ => by simp [bits, Nat.testBit_and]
  have e3 : piecesB n es m = pcs (endsOf es) (bits m) es.length n.toNat := rfl
  have e4 : piecesB n es o = pcs (endsOf es) (bits o) es.length n.toNat := rfl
  have k1 := pcs_both (A := bits m) (B := bits o) hE
  have k2 := pcs_mono (T := bits m) (T' := fun i => bits m i || bits o i) hE fun i _ hi => by simp [hi]
  have k3 := pcs_mono (T := bits o) (T' := fun i => bits m i || bits o i) hE fun i _ hi => by simp [hi]
  have k4 := pcs_mono (T := fun i => bits m i && bits o i) (T' := bits m) hE fun i _ hi => by simp at hi; exact hi.1
  have k5 := pcs_mono (T := fun i => bits m i && bits o i) (T' := bits o) hE fun i _ hi => by simp at hi; exact hi.2
  rw [e1, e2, e3, e4]
  omega

theorem pow_wrap (l : Nat) (h : l ≤ 9) : wrap64 (2 ^ l) = ((2 ^ l : Nat) : Int) ∧ 1 ≤ 2 ^ l ∧ 2 ^ l ≤ 512 := by
  have : l = 0 ∨ l = 1 ∨ l = 2 ∨ l = 3 ∨ l = 4 ∨ l = 5 ∨ l = 6 ∨ l = 7 ∨ l = 8 ∨ l = 9 := by omega
  rcases this with rfl | rfl | rfl | rfl | rfl | rfl | rfl | rfl | rfl | rfl <;> decide +kernel
theorem tmod_nat (o P : Nat) : (o : Int).tmod (P : Int) = ((o % P : Nat) : Int) := by
  rw [Int.tmod_eq_emod_of_nonneg (Int.natCast_nonneg _)]; rfl
end Go.Proofs.Ytdacfeebidhgnaa
