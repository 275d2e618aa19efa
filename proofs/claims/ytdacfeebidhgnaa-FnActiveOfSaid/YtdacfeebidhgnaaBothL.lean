/- Plain facts: two rows put together as both programs do it, and rows of counts of states. -/
import Derived.Test.YtdacfeebidhgnaaRow
import Derived.Test.YtdacfeebidhgnaaCounts
import Derived.Test.YtdacfeebidhgnaaCounts5
namespace Go.Proofs.Ytdacfeebidhgnaa
open Go.RowKit
set_option maxRecDepth 100000

theorem wr_add (a b : Int) : IntKind.i64.wrap (IntKind.i64.wrap a + IntKind.i64.wrap b) = IntKind.i64.wrap (a + b) := by
  rw [IntWalk.i64_left, IntWalk.i64_left, IntWalk.i64_left, IntWalk.i64_left]; unfold wrap64; omega
theorem wr_zero : IntKind.i64.wrap 0 = 0 := IntWalk.i64_in _ (by omega)

/-- The sum after j numbers of the row, each taken so many times, were added from a place on. -/
def addR (t : Int) (bs : List Int) (i : Nat) (p : Nat → Int) : Nat → (Nat → Int)
  | 0 => p
  | j + 1 => updI (addR t bs i p j) (i + j) (IntKind.i64.wrap (addR t bs i p j (i + j) + IntKind.i64.wrap (t * bs.getD j 0)))
theorem addR_is (t : Int) (bs : List Int) (i : Nat) (p : Nat → Int) : ∀ (j k : Nat), addR t bs i p j k = if i ≤ k ∧ k < i + j then IntKind.i64.wrap (p k + IntKind.i64.wrap (t * bs.getD (k - i) 0)) else p k
  | 0, k => by rw [if_neg (by omega)]; rfl
  | j + 1, k => by
    simp only [addR, updI]
    by_cases hk : k = i + j
    · subst hk
      rw [if_pos rfl, addR_is t bs i p j (i + j), if_neg (by omega), if_pos (by omega), Nat.add_sub_cancel_left]
    · rw [if_neg hk, addR_is t bs i p j k]
      by_cases h : i ≤ k ∧ k < i + j
      · rw [if_pos h, if_pos (by omega)]
      · rw [if_neg h, if_neg (by omega)]
/-- The sum after i numbers of the first row. -/
def bothR (xa bs : List Int) : Nat → (Nat → Int)
  | 0 => fun _ => 0
  | i + 1 => addR (xa.getD i 0) bs i (bothR xa bs i) bs.length
theorem conv_snoc : ∀ (a : List Int) (x : Int) (b : List Int) (k : Nat), conv (a ++ [x]) b k = conv a b k + if a.length ≤ k then x * b.getD (k - a.length) 0 else 0
  | [], x, b, k => by cases k <;> simp [conv]
  | y :: a, x, b, 0 => by simp [conv]
  | y :: a, x, b, k + 1 => by
    show y * b.getD (k + 1) 0 + conv (a ++ [x]) b k = y * b.getD (k + 1) 0 + conv a b k + _
    rw [conv_snoc a x b k, List.length_cons, Nat.add_sub_add_right]
    by_cases h : a.length ≤ k
    · rw [if_pos h, if_pos (by omega), Int.add_assoc]
    · rw [if_neg h, if_neg (by omega), Int.add_zero, Int.add_zero]
theorem bothR_is (xa bs : List Int) : ∀ i, i ≤ xa.length → ∀ k, bothR xa bs i k = IntKind.i64.wrap (conv (xa.take i) bs k)
  | 0, _, k => by simp [bothR, conv, wr_zero]
  | i + 1, h, k => by
    have hi : i < xa.length := by omega
    have hlen : (xa.take i).length = i := by rw [List.length_take]; omega
    rw [bothR, addR_is, bothR_is xa bs i (by omega) k, List.take_succ_eq_append_getElem hi, conv_snoc, hlen]
    have hg : xa.getD i 0 = xa[i] := by simp [List.getD, hi]
    rw [hg, wr_add]
    by_cases h1 : i ≤ k
    · rw [if_pos h1]
      by_cases h2 : k < i + bs.length
      · rw [if_pos ⟨h1, h2⟩]
      · rw [if_neg (by omega)]
        have : bs.getD (k - i) 0 = 0 := by rw [List.getD_eq_getElem?_getD, List.getElem?_eq_none (by omega)]; rfl
        rw [this, Int.mul_zero, Int.add_zero]
    · rw [if_neg (by omega), if_neg h1, Int.add_zero]

def bothOkB (xa bs : List Int) : Bool := decide (1 ≤ xa.length) && decide (xa.length ≤ 30) && (decide (1 ≤ bs.length) && decide (bs.length ≤ 30))
def togL (xa bs : List Int) : List Int := rowL (bothR xa bs xa.length) (xa.length + bs.length - 1)
def bothL (xa bs : List Int) : List Int := if bothOkB xa bs = true then togL xa bs else []
theorem togL_is (xa bs : List Int) : togL xa bs = rowL (fun k => IntKind.i64.wrap (conv xa bs k)) (xa.length + bs.length - 1) :=
  rowL_congr fun k _ => by rw [bothR_is xa bs _ (Nat.le_refl _) k, List.take_length]
theorem togL_length (xa bs : List Int) : (togL xa bs).length = xa.length + bs.length - 1 := rowL_length _ _
theorem bothOkB_comm (xa bs : List Int) : bothOkB bs xa = bothOkB xa bs := by
  rw [Bool.eq_iff_iff]; simp only [bothOkB, Bool.and_eq_true, decide_eq_true_eq]; omega
theorem bothL_comm (xa bs : List Int) : bothL bs xa = bothL xa bs := by
  unfold bothL
  rw [bothOkB_comm, togL_is, togL_is, Nat.add_comm bs.length]
  simp only [conv_comm xa bs]
theorem conv_bound : ∀ (a b : List Int) (k : Nat), (∀ x ∈ a, 0 ≤ x ∧ x ≤ 8) → (∀ x ∈ b, 0 ≤ x ∧ x ≤ 8) → 0 ≤ conv a b k ∧ conv a b k ≤ 64 * a.length
  | [], _, _, _, _ => by simp [conv]
  | x :: a, b, k, ha, hb => by
    have hx := ha x (by simp)
    have hy : 0 ≤ b.getD k 0 ∧ b.getD k 0 ≤ 8 := by
      by_cases hk : k < b.length
      · have := hb b[k] (List.getElem_mem hk)
        simpa [List.getD, hk] using this
      · rw [List.getD_eq_getElem?_getD, List.getElem?_eq_none (by omega)]; simp
    have h1 : 0 ≤ x * b.getD k 0 := Int.mul_nonneg hx.1 hy.1
    have h2 : x * b.getD k 0 ≤ 8 * 8 := Int.mul_le_mul hx.2 hy.2 hy.1 (by omega)
    simp only [conv, List.length_cons]
    cases k with
    | zero => simp only [Int.natCast_add]; omega
    | succ k =>
      have := conv_bound a b k (fun x h => ha x (by simp [h])) hb
      simp only [Int.natCast_add]; omega
theorem togL_small {xa bs : List Int} (ha : ∀ x ∈ xa, 0 ≤ x ∧ x ≤ 8) (hb : ∀ x ∈ bs, 0 ≤ x ∧ x ≤ 8) (hl : xa.length ≤ 1000) : togL xa bs = rowL (conv xa bs) (xa.length + bs.length - 1) := by
  rw [togL_is]
  refine rowL_congr fun k _ => ?_
  have := conv_bound xa bs k ha hb
  exact IntWalk.i64_in _ (by omega)
theorem sumI_rowL (p : Nat → Int) : ∀ n, (rowL p n).sum = sumI p n
  | 0 => rfl
  | n + 1 => by
    have : rowL p (n + 1) = rowL p n ++ [p n] := by simp [rowL, List.range_succ]
    rw [this, List.sum_append, sumI_rowL p n, sumI]; simp
theorem togL_sum {xa bs : List Int} (ha : ∀ x ∈ xa, 0 ≤ x ∧ x ≤ 8) (hb : ∀ x ∈ bs, 0 ≤ x ∧ x ≤ 8) (hl : xa.length ≤ 1000) : (togL xa bs).sum = xa.sum * bs.sum := by
  rw [togL_small ha hb hl, sumI_rowL]
  exact conv_sum xa bs _ (by omega)
theorem togL_one {xa : List Int} (ha : ∀ x ∈ xa, -9223372036854775808 ≤ x ∧ x ≤ 9223372036854775807) : togL xa [1] = xa := by
  rw [togL_is]
  refine Eq.trans (rowL_congr (q := fun k => xa.getD k 0) fun k hk => ?_) (rowL_of xa)
  have hk' : k < xa.length := by simpa using hk
  have := ha xa[k] (List.getElem_mem hk')
  rw [conv_one]
  refine IntWalk.i64_in _ ?_
  simp [List.getD, hk']; omega

/-- How many of the first s states, with so many there, fit. -/
def cntS (q : Nat → Bool) (s k : Nat) : Nat := (List.range s).countP (fun t => q t && decide (pop t = k))
def cntR (q : Nat → Bool) (s m : Nat) : List Int := rowL (fun k => (cntS q s k : Nat)) m
theorem cntS_le (q : Nat → Bool) (s k : Nat) : cntS q s k ≤ s := by
  have := List.countP_le_length (p := fun t => q t && decide (pop t = k)) (l := List.range s)
  rwa [List.length_range] at this
theorem cntS_succ (q : Nat → Bool) (s k : Nat) : cntS q (s + 1) k = cntS q s k + if q s = true ∧ pop s = k then 1 else 0 := by
  unfold cntS
  rw [List.range_succ, List.countP_append]
  congr 1
  by_cases h : q s = true ∧ pop s = k
  · rw [if_pos h]; simp [h.1, h.2]
  · rw [if_neg h]; simp; intro h1 h2; exact absurd ⟨h1, h2⟩ h
theorem cntR_length (q : Nat → Bool) (s m : Nat) : (cntR q s m).length = m := rowL_length _ _
theorem cntR_zero (q : Nat → Bool) (m : Nat) : cntR q 0 m = List.replicate m 0 := by
  rw [rowL_zero]; rfl
theorem cntR_getD (q : Nat → Bool) (s : Nat) {m k : Nat} (h : k < m) : (cntR q s m).getD k 0 = (cntS q s k : Nat) := rowL_getD _ h
theorem cntR_miss {q : Nat → Bool} {s m : Nat} (h : q s = false) : cntR q (s + 1) m = cntR q s m :=
  rowL_congr fun k _ => by rw [cntS_succ, if_neg (by simp [h])]; rfl
theorem cntR_hit {q : Nat → Bool} {s m : Nat} (h : q s = true) : (cntR q s m).set (pop s) ((cntS q s (pop s) : Nat) + 1) = cntR q (s + 1) m := by
  unfold cntR
  rw [rowL_set]
  refine rowL_congr fun k _ => ?_
  rw [cntS_succ]
  unfold updI
  generalize pop s = P
  by_cases hk : k = P
  · rw [if_pos hk, if_pos ⟨h, hk.symm⟩, hk]; rfl
  · rw [if_neg hk, if_neg (fun e => hk e.2.symm)]; rfl
theorem pop_low {s l : Nat} (hs : s < 2 ^ l) (hl : l ≤ 9) : pop s ≤ l := by
  rw [pop_card hs hl]; exact card_le _ _

/-- What the three functions of counts say. -/
def joinOkB (n : Int) (es : List (Int × Int)) (a b : Int) : Bool := netOkB n es && (decide (1 ≤ a) && decide (a ≤ n)) && (decide (1 ≤ b) && decide (b ≤ n)) && !decide (a = b)
def joiningL (n : Int) (es : List (Int × Int)) (a b : Int) : List Int := if joinOkB n es a b = true then rowL (fun k => (joinC es a.toNat b.toNat k : Nat)) (es.length + 1) else []
def wholeL (n : Int) (es : List (Int × Int)) : List Int := if netOkB n es = true then rowL (fun k => (wholeC n es k : Nat)) (es.length + 1) else []
def forestL (n : Int) (es : List (Int × Int)) : List Int := if netOkB n es = true then rowL (fun k => (forestC es k : Nat)) (es.length + 1) else []
theorem joinOkB_iff {n : Int} {es : List (Int × Int)} {a b : Int} : joinOkB n es a b = true ↔ netOkB n es = true ∧ (1 ≤ a ∧ a ≤ n) ∧ (1 ≤ b ∧ b ≤ n) ∧ a ≠ b := by
  simp only [joinOkB, Bool.and_eq_true, decide_eq_true_eq, Bool.not_eq_true', decide_eq_false_iff_not, ne_eq, and_assoc]
theorem joining_cnt {n : Int} {es : List (Int × Int)} {a b : Int} (h : joinOkB n es a b = true) : cntR (fun t => joinedB n es t a b) (2 ^ es.length) (es.length + 1) = joiningL n es a b := by
  have h' := joinOkB_iff.1 h
  unfold joiningL cntR
  rw [if_pos h]
  refine rowL_congr fun k _ => ?_
  have := join_states h'.1 (a := a.toNat) (b := b.toNat) (by omega) (by omega) k
  rw [show ((a.toNat : Nat) : Int) = a by omega, show ((b.toNat : Nat) : Int) = b by omega] at this
  simp only [cntS]
  rw [this]
theorem whole_cnt {n : Int} {es : List (Int × Int)} (h : netOkB n es = true) : cntR (fun t => decide (piecesB n es t = 1)) (2 ^ es.length) (es.length + 1) = wholeL n es := by
  unfold wholeL cntR
  rw [if_pos h]
  refine rowL_congr fun k _ => ?_
  simp only [cntS]
  rw [whole_states h k]
theorem forest_cnt {n : Int} {es : List (Int × Int)} (h : netOkB n es = true) : cntR (fun t => freeB n es t) (2 ^ es.length) (es.length + 1) = forestL n es := by
  unfold forestL cntR
  rw [if_pos h]
  refine rowL_congr fun k _ => ?_
  simp only [cntS]
  rw [forest_states h k]
theorem wholeL_le (n : Int) (es : List (Int × Int)) : (wholeL n es).length ≤ 10 := by
  unfold wholeL
  split
  · next h => have := (netOkB_iff.1 h).2.1; rw [rowL_length]; omega
  · simp
theorem forestL_le (n : Int) (es : List (Int × Int)) : (forestL n es).length ≤ 10 := by
  unfold forestL
  split
  · next h => have := (netOkB_iff.1 h).2.1; rw [rowL_length]; omega
  · simp
theorem joiningL_le (n : Int) (es : List (Int × Int)) (a b : Int) : (joiningL n es a b).length ≤ 10 := by
  unfold joiningL
  split
  · next h => have := (netOkB_iff.1 (joinOkB_iff.1 h).1).2.1; rw [rowL_length]; omega
  · simp

/-- Choices. -/
def chsOkB (n k : Int) : Bool := decide (0 ≤ n) && decide (n ≤ 20) && decide (0 ≤ k)
def chsI (n k : Int) : Int := if chsOkB n k = true then (chs n.toNat k.toNat : Nat) else -1
def chsL (n : Nat) : List Int := rowL (fun k => (chs n k : Nat)) (n + 1)
theorem chsL_length (n : Nat) : (chsL n).length = n + 1 := rowL_length _ _
theorem chsL_at (n j : Nat) : (chsL n).getD j 0 = ((chs n j : Nat) : Int) := by
  by_cases hj : j < n + 1
  · exact rowL_getD _ hj
  · rw [List.getD_eq_getElem?_getD, List.getElem?_eq_none (by rw [chsL_length]; omega), chs_more n j (by omega)]; rfl
theorem chsL_conv (n k : Nat) : conv (chsL n) [1, 1] k = ((chs (n + 1) k : Nat) : Int) := by
  rw [conv_tw]
  cases k with
  | zero => rw [chsL_at, chs_zero, chs_zero]; rfl
  | succ k =>
    show (chsL n).getD (k + 1) 0 + (chsL n).getD k 0 = _
    rw [chsL_at, chsL_at, chs, Int.natCast_add]
theorem chsL_step {n : Nat} (h : n ≤ 19) : togL (chsL n) [1, 1] = chsL (n + 1) := by
  rw [togL_is]
  simp only [chsL_length, List.length_cons, List.length_nil]
  refine rowL_congr fun k hk => ?_
  have hb := chs_bound (n := n + 1) (by omega) k
  rw [chsL_conv]
  exact IntWalk.i64_in _ (by omega)
end Go.Proofs.Ytdacfeebidhgnaa
