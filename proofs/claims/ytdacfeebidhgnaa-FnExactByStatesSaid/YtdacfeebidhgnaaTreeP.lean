/- Plain facts on trees of a net: what a tree is, the ring with a further edge, and the cut without one. -/
import Derived.Test.YtdacfeebidhgnaaMore2
namespace Go.Proofs.Ytdacfeebidhgnaa
open Go.RowKit
set_option maxRecDepth 100000

/-- The state of just those of the first edges of which something is true. -/
def setOf (p : Nat → Bool) : Nat → Nat
  | 0 => 0
  | k + 1 => if p k = true then setOf p k ||| 2 ^ k else setOf p k
theorem setOf_lt (p : Nat → Bool) : ∀ k, setOf p k < 2 ^ k
  | 0 => by simp [setOf]
  | k + 1 => by
    have h := setOf_lt p k
    have h2 : (2 : Nat) ^ k < 2 ^ (k + 1) := Nat.pow_lt_pow_right (by omega) (by omega)
    unfold setOf
    split
    · exact Nat.or_lt_two_pow (by omega) h2
    · omega
theorem setOf_bit (p : Nat → Bool) (i : Nat) : ∀ k, (setOf p k).testBit i = (decide (i < k) && p i)
  | 0 => by simp [setOf]
  | k + 1 => by
    have h := setOf_bit p i k
    unfold setOf
    by_cases e : i = k
    · subst e
      have h0 : (setOf p i).testBit i = false := by rw [h]; simp
      split
      · rename_i hp
        rw [Nat.testBit_or, h0, Nat.testBit_two_pow, hp]; simp
      · rename_i hp
        rw [h0]; simp [hp]
    · have e2 : decide (i < k + 1) = decide (i < k) := by rw [decide_eq_decide]; omega
      rw [e2, ← h]
      split
      · rw [Nat.testBit_or, Nat.testBit_two_pow, decide_eq_false (by omega), Bool.or_false]
      · rfl
theorem setOf_congr {p q : Nat → Bool} {k : Nat} (h : ∀ i, i < k → p i = q i) : setOf p k = setOf q k := by
  apply Nat.eq_of_testBit_eq
  intro i
  rw [setOf_bit, setOf_bit]
  by_cases hi : i < k
  · rw [h i hi]
  · simp [hi]
theorem setOf_le (p : Nat → Bool) {k m : Nat} (h : k ≤ m) : setOf p k < 2 ^ m := Nat.lt_of_lt_of_le (setOf_lt p k) (Nat.pow_le_pow_right (by omega) h)

/-- A tree: whole, with one edge less than nodes. -/
def treeB (n : Int) (es : List (Int × Int)) (s : Int) : Bool := stateOkB n es s && (decide (thereI n es s = n - 1) && decide (piecesI n es s = 1))
theorem treeB_whole (n : Int) (es : List (Int × Int)) (s : Int) : (wholeB n es s && decide (thereI n es s = n - 1)) = treeB n es s := by
  unfold treeB wholeB
  cases h : stateOkB n es s with
  | true => rw [Bool.true_and, Bool.and_comm]
  | false =>
    have : piecesI n es s = -1 := by simp [piecesI, h]
    rw [this]; simp
theorem treeB_ok {n s : Int} {es : List (Int × Int)} (h : treeB n es s = true) : stateOkB n es s = true := by
  unfold treeB at h; rw [Bool.and_eq_true] at h; exact h.1
/-- A tree, as facts on pieces. -/
structure TreeP (E : Nat → Nat × Nat) (m n : Nat) (T : Nat → Bool) : Prop where
  ok : EndsOk E m n
  one : 1 ≤ n
  whole : pcs E T m n = 1
  free : pcs E T m n + card T m = n
theorem treeB_iff {n s : Int} {es : List (Int × Int)} : treeB n es s = true ↔ stateOkB n es s = true ∧ TreeP (endsOf es) es.length n.toNat (bits s) := by
  unfold treeB
  rw [Bool.and_eq_true]
  refine and_congr_right fun h => ?_
  have h1 := (netOkB_iff.1 (stateOkB_net h)).1
  have h2 : piecesB n es s = pcs (endsOf es) (bits s) es.length n.toNat := rfl
  rw [Bool.and_eq_true, decide_eq_true_eq, decide_eq_true_eq, there_card h, (piecesI_lt h).1, h2]
  constructor
  · rintro ⟨h3, h4⟩
    exact ⟨endsOf_ok (stateOkB_net h), by omega, by omega, by omega⟩
  · rintro ⟨-, -, h3, h4⟩
    exact ⟨by omega, by omega⟩
theorem tree_free {n s : Int} {es : List (Int × Int)} (h : stateOkB n es s = true) : treeB n es s = (wholeB n es s && freeB n es s) := by
  have h2 : piecesB n es s = pcs (endsOf es) (bits s) es.length n.toNat := rfl
  rw [Bool.eq_iff_iff, treeB_iff, Bool.and_eq_true, free_iff h]
  have h3 : wholeB n es s = true ↔ pcs (endsOf es) (bits s) es.length n.toNat = 1 := by unfold wholeB; rw [(piecesI_lt h).1, h2, decide_eq_true_eq]; omega
  rw [h3]
  have h1 := (netOkB_iff.1 (stateOkB_net h)).1
  constructor
  · rintro ⟨-, k⟩; exact ⟨k.whole, k.free⟩
  · rintro ⟨k1, k2⟩; exact ⟨h, endsOf_ok (stateOkB_net h), by omega, k1, k2⟩

section
variable {E : Nat → Nat × Nat} {m n : Nat} {T : Nat → Bool}
def moreT (T : Nat → Bool) (k i : Nat) : Bool := T i || decide (i = k)
def lessT (T : Nat → Bool) (k i : Nat) : Bool := T i && decide (i ≠ k)
/-- Both ends of an edge are joined. -/
def metB (E : Nat → Nat × Nat) (m : Nat) (T : Nat → Bool) (k : Nat) : Bool := decide (rep E T m (E k).1 = rep E T m (E k).2)
theorem more_pcs (hE : EndsOk E m n) (T : Nat → Bool) {k : Nat} (hk : k < m) : pcs E T m n = pcs E (moreT T k) m n + if metB E m T k = true then 0 else 1 := by
  have h := pcs_more (T := T) (T' := moreT T k) hE hk (fun i _ => by simp [moreT])
  unfold metB
  simpa using h
theorem less_more (T : Nat → Bool) {k : Nat} (hk : T k = true) : moreT (lessT T k) k = T := by
  funext i
  unfold moreT lessT
  by_cases e : i = k
  · subst e; simp [hk]
  · simp [e]
theorem less_pcs (hE : EndsOk E m n) {k : Nat} (hk : k < m) (hT : T k = true) : pcs E (lessT T k) m n = pcs E T m n + if metB E m (lessT T k) k = true then 0 else 1 := by
  have h := more_pcs hE (lessT T k) hk
  rwa [less_more T hT] at h
theorem met_whole (hE : EndsOk E m n) (hn : 1 ≤ n) (h : pcs E T m n = 1) {k : Nat} (hk : k < m) : metB E m T k = true := by
  have h1 := (pcs_whole hE hn).1 h
  have h2 := hE k hk
  unfold metB
  rw [decide_eq_true_eq, ← h1 _ h2.1.1 h2.1.2, ← h1 _ h2.2.1 h2.2.2]
theorem met_has (hE : EndsOk E m n) {k : Nat} (hk : k < m) (h : T k = true) : metB E m T k = true := by
  unfold metB
  rw [decide_eq_true_eq]
  exact (rep_ok hE T m (Nat.le_refl _)).joins k hk h
theorem met_mono (hE : EndsOk E m n) {T' : Nat → Bool} (h : ∀ i, T i = true → T' i = true) {k : Nat} (hm : metB E m T k = true) : metB E m T' k = true := by
  unfold metB at *
  rw [decide_eq_true_eq] at *
  exact (rep_ok hE T m (Nat.le_refl _)).mono (rep_ok hE T' m (Nat.le_refl _)) (Nat.le_refl _) (fun i _ hi => h i hi) hm
/-- Without an edge, a tree has two pieces. -/
theorem TreeP.less (h : TreeP E m n T) {k : Nat} (hk : k < m) (hT : T k = true) : pcs E (lessT T k) m n = 2 ∧ metB E m (lessT T k) k = false := by
  have h1 := (free_less (T' := lessT T k) h.ok hk hT (fun i => by simp [lessT]) h.free).2
  have h2 := less_pcs h.ok hk hT
  have h3 := h.whole
  refine ⟨by omega, ?_⟩
  cases hm : metB E m (lessT T k) k with
  | false => rfl
  | true => rw [hm, if_pos rfl] at h2; omega
/-- With a further edge, a tree is whole. -/
theorem TreeP.more (h : TreeP E m n T) (k : Nat) : pcs E (moreT T k) m n = 1 := by
  have h1 := pcs_mono (T := T) (T' := moreT T k) h.ok (fun i _ hi => by simp [moreT, hi])
  have h2 := pcs_pos (T := moreT T k) h.ok h.one
  have h3 := h.whole
  omega
/-- The ring with a further edge. -/
def ringB (E : Nat → Nat × Nat) (m : Nat) (T : Nat → Bool) (at' o : Nat) : Bool := moreT T at' o && metB E m (lessT (moreT T at') o) o
/-- The cut without an edge. -/
def cutB (E : Nat → Nat × Nat) (m : Nat) (T : Nat → Bool) (at' o : Nat) : Bool := !metB E m (lessT T at') o
theorem TreeP.ring_at (h : TreeP E m n T) {a : Nat} (ha : a < m) (hT : T a = false) : ringB E m T a a = true := by
  unfold ringB
  rw [Bool.and_eq_true]
  refine ⟨by simp [moreT], ?_⟩
  have e : lessT (moreT T a) a = T := by
    funext i
    unfold lessT moreT
    by_cases hi : i = a
    · subst hi; simp [hT]
    · simp [hi]
  rw [e]
  exact met_whole h.ok h.one h.whole ha
/-- Of the edges there, just those are in the ring without which, and with the further one, it is whole. -/
theorem TreeP.ring_pcs (h : TreeP E m n T) (a : Nat) {o : Nat} (ho : o < m) (hT : T o = true) : ringB E m T a o = decide (pcs E (lessT (moreT T a) o) m n = 1) := by
  have hmo : moreT T a o = true := by simp [moreT, hT]
  have h1 := less_pcs h.ok ho hmo
  rw [h.more a] at h1
  unfold ringB
  rw [hmo, Bool.true_and]
  cases hm : metB E m (lessT (moreT T a) o) o with
  | true => rw [hm, if_pos rfl] at h1; rw [h1]; rfl
  | false => rw [hm, if_neg (by simp)] at h1; rw [h1]; rfl
theorem TreeP.cut_pcs (h : TreeP E m n T) {a : Nat} (ha : a < m) (hT : T a = true) {o : Nat} (ho : o < m) : cutB E m T a o = decide (pcs E (moreT (lessT T a) o) m n = 1) := by
  have h1 := more_pcs h.ok (lessT T a) ho
  rw [(h.less ha hT).1] at h1
  unfold cutB
  cases hm : metB E m (lessT T a) o with
  | true => rw [hm, if_pos rfl] at h1; rw [show pcs E (moreT (lessT T a) o) m n = 2 by omega]; rfl
  | false => rw [hm, if_neg (by simp)] at h1; rw [show pcs E (moreT (lessT T a) o) m n = 1 by omega]; rfl
theorem TreeP.cut_at (h : TreeP E m n T) {a : Nat} (ha : a < m) (hT : T a = true) : cutB E m T a a = true := by
  unfold cutB; rw [(h.less ha hT).2]; rfl
theorem TreeP.cut_has (h : TreeP E m n T) {a o : Nat} (ho : o < m) (hT : T o = true) (hne : o ≠ a) : cutB E m T a o = false := by
  unfold cutB
  rw [met_has h.ok ho (by simp [lessT, hT, hne])]; rfl
/-- Rings and cuts meet in twos. -/
theorem TreeP.ring_cut (h : TreeP E m n T) {a o : Nat} (ha : a < m) (ho : o < m) (hTa : T a = true) (hTo : T o = false) : ringB E m T o a = cutB E m T a o := by
  rw [h.ring_pcs o ha hTa, h.cut_pcs ha hTa ho]
  have e : lessT (moreT T o) a = moreT (lessT T a) o := by
    funext i
    unfold lessT moreT
    by_cases hi : i = o
    · subst hi
      have : i ≠ a := fun e => by subst e; rw [hTa] at hTo; cases hTo
      simp [hTo, this]
    · simp [hi]
  rw [e]
theorem card_more {k : Nat} (hT : T k = false) (hk : k < m) : card (moreT T k) m = card T m + 1 := by
  refine card_less (T := moreT T k) (T' := T) (by simp [moreT]) (fun i => ?_) m hk
  unfold moreT
  by_cases e : i = k
  · subst e; simp [hT]
  · simp [e]
/-- The ring is no tree's part: its edges are not without a ring. -/
theorem TreeP.ring_not (h : TreeP E m n T) {a : Nat} (ha : a < m) (hTa : T a = false) : pcs E (fun i => decide (i < m) && ringB E m T a i) m n + card (fun i => decide (i < m) && ringB E m T a i) m ≠ n := by
  intro hf
  -- What of the tree stands in the ring, beside the edges from j on.
  have key : ∀ j, j ≤ m → metB E m (fun i => T i && (decide (j ≤ i) || ringB E m T a i)) a = true := by
    intro j
    induction j with
    | zero =>
      intro _
      have e : (fun i => T i && (decide (0 ≤ i) || ringB E m T a i)) = T := by funext i; simp
      rw [e]; exact met_whole h.ok h.one h.whole ha
    | succ j ih =>
      intro hj
      have h0 := ih (by omega)
      obtain ⟨S, hS⟩ : ∃ S : Nat → Bool, S = fun i => T i && (decide (j ≤ i) || ringB E m T a i) := ⟨_, rfl⟩
      rw [← hS] at h0
      by_cases hk : T j = true ∧ ringB E m T a j = false
      · have hSj : S j = true := by rw [hS]; simp [hk.1]
        have e : (fun i => T i && (decide (j + 1 ≤ i) || ringB E m T a i)) = lessT S j := by
          funext i
          rw [hS]
          unfold lessT
          by_cases hi : i = j
          · subst hi; simp [hk.2]
          · have : decide (j + 1 ≤ i) = decide (j ≤ i) := by rw [decide_eq_decide]; omega
            rw [this]; simp [hi]
        rw [e]
        cases hm : metB E m (lessT S j) a with
        | true => rfl
        | false =>
          exfalso
          have p1 := less_pcs h.ok (show j < m by omega) hSj
          have p2 := more_pcs h.ok (lessT S j) ha
          rw [hm, if_neg (by simp)] at p2
          have p3 := more_pcs h.ok S ha
          rw [h0, if_pos rfl] at p3
          have hja : j ≠ a := fun e => by subst e; rw [hTa] at hk; cases hk.1
          have e2 : moreT (lessT S j) a = lessT (moreT S a) j := by
            funext i
            unfold moreT lessT
            by_cases hi : i = a
            · subst hi; simp [Ne.symm hja]
            · simp [hi]
          have p4 := less_pcs (T := moreT S a) h.ok (show j < m by omega) (by simp [moreT, hSj])
          rw [← e2] at p4
          have hmet : metB E m (moreT (lessT S j) a) j = true := by
            cases hq : metB E m (moreT (lessT S j) a) j with
            | true => rfl
            | false =>
              rw [hq, if_neg (by simp)] at p4
              split at p1 <;> omega
          have hr : ringB E m T a j = true := by
            unfold ringB
            rw [show moreT T a j = true by simp [moreT, hk.1], Bool.true_and]
            refine met_mono h.ok (fun i hi => ?_) hmet
            rw [e2] at hi
            unfold lessT moreT at *
            rw [Bool.and_eq_true, Bool.or_eq_true] at *
            refine ⟨?_, hi.2⟩
            rcases hi.1 with hh | hh
            · left; rw [hS] at hh; simp at hh; exact hh.1
            · right; exact hh
          rw [hk.2] at hr; cases hr
      · have e : (fun i => T i && (decide (j + 1 ≤ i) || ringB E m T a i)) = S := by
          funext i
          rw [hS]
          by_cases hi : i = j
          · subst hi
            cases hTi : T i with
            | false => simp [hTi]
            | true =>
              have : ringB E m T a i = true := by
                cases hr : ringB E m T a i with
                | true => rfl
                | false => exact absurd ⟨hTi, hr⟩ hk
              simp [this, hTi]
          · have : decide (j + 1 ≤ i) = decide (j ≤ i) := by rw [decide_eq_decide]; omega
            rw [this]
        rw [e]; exact h0
  have hfin := key m (Nat.le_refl _)
  have hC : (fun i => decide (i < m) && ringB E m T a i) a = true := by simp [ha, h.ring_at ha hTa]
  obtain ⟨C, hCd⟩ : ∃ C : Nat → Bool, C = fun i => decide (i < m) && ringB E m T a i := ⟨_, rfl⟩
  rw [← hCd] at hf hC
  have q1 := (free_less (T' := lessT C a) h.ok ha hC (fun i => by simp [lessT]) hf).2
  have q2 := less_pcs h.ok ha hC
  have q3 : metB E m (lessT C a) a = true := by
    have h1 := (rep_ok h.ok (fun i => T i && (decide (m ≤ i) || ringB E m T a i)) m (Nat.le_refl _))
    have h2 := (rep_ok h.ok (lessT C a) m (Nat.le_refl _))
    unfold metB at hfin ⊢
    rw [decide_eq_true_eq] at hfin ⊢
    refine h1.mono h2 (Nat.le_refl _) (fun i hi ht => ?_) hfin
    have hne : i ≠ a := fun e => by subst e; simp [hTa] at ht
    have hni : ¬ m ≤ i := by omega
    simp only [decide_eq_false hni, Bool.false_or, Bool.and_eq_true] at ht
    simp [lessT, hCd, hi, ht.2, hne]
  rw [q3, if_pos rfl] at q2
  omega
end
end Go.Proofs.Ytdacfeebidhgnaa
