/- What the laws on trees, rings and cuts ask. -/
import Derived.Test.YtmdmmebekicpkabSpec9
namespace Go.Proofs.Ytmdmmebekicpkab
open Go.RowKit
set_option maxRecDepth 100000

theorem card_swap {m a k : Nat} {T : Nat → Bool} (ha : a < m) (hk : k < m) (hTa : T a = false) (hTk : T k = true) : card (lessT (moreT T a) k) m = card T m := by
  have h1 := card_more hTa ha
  have hmk : moreT T a k = true := by simp [moreT, hTk]
  have h2 := card_less (T := moreT T a) (T' := lessT (moreT T a) k) hmk (fun i => by simp [lessT]) m hk
  omega
theorem swap_same {a k : Nat} {T : Nat → Bool} (hTa : T a = true) (hTk : T k = false) : moreT (lessT T a) k = lessT (moreT T k) a := by
  funext i
  unfold lessT moreT
  by_cases hi : i = k
  · subst hi
    have : i ≠ a := fun e => by subst e; rw [hTa] at hTk; cases hTk
    simp [hTk, this]
  · simp [hi]
/-- A state with one edge less and one more is a tree just if it is whole. -/
theorem tree_by {n : Int} {es : List (Int × Int)} {m s : Nat} (ht : treeB n es (m : Nat) = true) (hs : stateOkB n es (s : Nat) = true) (hc : card (bits (s : Nat)) es.length = card (bits (m : Nat)) es.length) :
    treeB n es (s : Nat) = decide (pcs (endsOf es) (bits (s : Nat)) es.length n.toNat = 1) := by
  have h := (treeB_iff.1 ht).2
  rw [Bool.eq_iff_iff, treeB_iff, decide_eq_true_eq]
  have h1 := h.free
  have h2 := h.whole
  constructor
  · rintro ⟨-, k⟩; exact k.whole
  · intro k
    exact ⟨hs, h.ok, h.one, k, by omega⟩
section
variable {n : Int} {es : List (Int × Int)} {m k a : Nat}
theorem tree_nat (ht : treeB n es (m : Nat) = true) : m < 2 ^ es.length ∧ m < 512 ∧ es.length ≤ 9 ∧ netOkB n es = true := by
  obtain ⟨m', e, h1, h2⟩ := state_nat (treeB_ok ht)
  obtain rfl : m = m' := by omega
  exact ⟨h1, h2, (netOkB_iff.1 (stateOkB_net (treeB_ok ht))).2.1, stateOkB_net (treeB_ok ht)⟩
theorem tree_less (ht : treeB n es (m : Nat) = true) (hk : k < es.length) (hb : m.testBit k = true) : wholeB n es ((m - 2 ^ k : Nat) : Int) = false := by
  obtain ⟨hm, hm5, h9, hn⟩ := tree_nat ht
  have h := (treeB_iff.1 ht).2
  have hs : stateOkB n es ((m - 2 ^ k : Nat) : Int) = true := state_of hn (Nat.lt_of_le_of_lt (Nat.sub_le _ _) hm)
  have hT : bits (m : Nat) k = true := by unfold bits; rw [Int.toNat_natCast, hb]
  have h2 := (h.less hk hT).1
  unfold wholeB
  rw [(piecesI_lt hs).1]
  unfold piecesB
  rw [bits_less hm5 (by omega) hb, h2]; rfl
theorem tree_more (ht : treeB n es (m : Nat) = true) (hk : k < es.length) (hb : m.testBit k = false) : freeB n es ((m ||| 2 ^ k : Nat) : Int) = false := by
  obtain ⟨hm, hm5, h9, hn⟩ := tree_nat ht
  have h := (treeB_iff.1 ht).2
  have hs : stateOkB n es ((m ||| 2 ^ k : Nat) : Int) = true := state_of hn (more_lt hm hk)
  have hT : bits (m : Nat) k = false := by unfold bits; rw [Int.toNat_natCast, hb]
  cases hf : freeB n es ((m ||| 2 ^ k : Nat) : Int) with
  | false => rfl
  | true =>
    have h1 := (free_iff hs).1 hf
    rw [bits_more, h.more k, card_more hT hk] at h1
    have h2 := h.free
    have h3 := h.whole
    omega
/-- Without an edge of the ring, and with the further one. -/
theorem ring_tree (ht : treeB n es (m : Nat) = true) (ha : a < es.length) (hba : m.testBit a = false) (hk : k < es.length) (hbk : m.testBit k = true) : treeB n es (((m ||| 2 ^ a) - 2 ^ k : Nat) : Int) = ringB (endsOf es) es.length (bits (m : Nat)) a k := by
  obtain ⟨hm, hm5, h9, hn⟩ := tree_nat ht
  have h := (treeB_iff.1 ht).2
  have hTa : bits (m : Nat) a = false := by unfold bits; rw [Int.toNat_natCast, hba]
  have hTk : bits (m : Nat) k = true := by unfold bits; rw [Int.toNat_natCast, hbk]
  have hw : m ||| 2 ^ a < 512 := Nat.or_lt_two_pow (n := 9) (by omega) (Nat.pow_lt_pow_right (by omega) (by omega))
  have hbw : (m ||| 2 ^ a).testBit k = true := by rw [Nat.testBit_or, hbk]; rfl
  have e := bits_less hw (show k < 9 by omega) hbw
  rw [bits_more] at e
  have hs : stateOkB n es (((m ||| 2 ^ a) - 2 ^ k : Nat) : Int) = true := state_of hn (Nat.lt_of_le_of_lt (Nat.sub_le _ _) (more_lt hm ha))
  rw [tree_by ht hs (by rw [e]; exact card_swap ha hk hTa hTk), e, h.ring_pcs a hk hTk]
/-- With an edge of the cut instead of the edge. -/
theorem cut_tree (ht : treeB n es (m : Nat) = true) (ha : a < es.length) (hba : m.testBit a = true) (hk : k < es.length) (hbk : m.testBit k = false) : treeB n es (((m - 2 ^ a) ||| 2 ^ k : Nat) : Int) = cutB (endsOf es) es.length (bits (m : Nat)) a k := by
  obtain ⟨hm, hm5, h9, hn⟩ := tree_nat ht
  have h := (treeB_iff.1 ht).2
  have hTa : bits (m : Nat) a = true := by unfold bits; rw [Int.toNat_natCast, hba]
  have hTk : bits (m : Nat) k = false := by unfold bits; rw [Int.toNat_natCast, hbk]
  have e := bits_more (m - 2 ^ a) k
  rw [bits_less hm5 (show a < 9 by omega) hba] at e
  have hs : stateOkB n es (((m - 2 ^ a) ||| 2 ^ k : Nat) : Int) = true := state_of hn (more_lt (Nat.lt_of_le_of_lt (Nat.sub_le _ _) hm) hk)
  rw [tree_by ht hs (by rw [e, swap_same hTa hTk]; exact card_swap hk ha hTk hTa), e, h.cut_pcs ha hTa hk]
theorem ring_not_free (ht : treeB n es (m : Nat) = true) (ha : a < es.length) (hba : m.testBit a = false) : freeB n es ((setOf (ringB (endsOf es) es.length (bits (m : Nat)) a) es.length : Nat) : Int) = false := by
  obtain ⟨hm, hm5, h9, hn⟩ := tree_nat ht
  have h := (treeB_iff.1 ht).2
  have hTa : bits (m : Nat) a = false := by unfold bits; rw [Int.toNat_natCast, hba]
  have hs : stateOkB n es ((setOf (ringB (endsOf es) es.length (bits (m : Nat)) a) es.length : Nat) : Int) = true := state_of hn (setOf_lt _ _)
  have e : bits ((setOf (ringB (endsOf es) es.length (bits (m : Nat)) a) es.length : Nat) : Int) = fun i => decide (i < es.length) && ringB (endsOf es) es.length (bits (m : Nat)) a i := by
    funext i
    show (setOf _ _).testBit i = _
    exact setOf_bit _ i _
  cases hf : freeB n es ((setOf (ringB (endsOf es) es.length (bits (m : Nat)) a) es.length : Nat) : Int) with
  | false => rfl
  | true =>
    have h1 := (free_iff hs).1 hf
    rw [e] at h1
    exact absurd h1 (h.ring_not ha hTa)
theorem ring_in (r : Nat) (hr : ∀ i, r.testBit i = true → (m ||| 2 ^ a).testBit i = true) : r &&& (m ||| 2 ^ a) = r := sub_iff.2 hr
end
end Go.Proofs.Ytmdmmebekicpkab
