/- Plain facts on pivots: states of the other edges in which an edge counts. -/
import Derived.Test.YtlcgbmeneajfoacPaths
import Derived.Test.YtlcgbmeneajfoacSplit
import Derived.Test.YtlcgbmeneajfoacCounts
import Derived.Test.YtlcgbmeneajfoacFacts4
namespace Go.Proofs.Ytlcgbmeneajfoac
set_option maxRecDepth 100000

theorem less_ends {es : List (Int × Int)} {at_ : Nat} (hat : at_ < es.length) (i : Nat) : endsOf (es.take at_ ++ es.drop (at_ + 1)) i = endsOf es (if i < at_ then i else i + 1) := by
  unfold endsOf
  have hlen : (es.take at_).length = at_ := by rw [List.length_take]; omega
  by_cases h : i < at_
  · rw [if_pos h, List.getElem?_append_left (by omega), List.getElem?_take_of_lt h]
  · rw [if_neg h, List.getElem?_append_right (by omega), hlen, List.getElem?_drop, show at_ + 1 + (i - at_) = i + 1 by omega]
theorem less_netOk {n : Int} {es : List (Int × Int)} (hn : netOkB n es = true) {at_ : Nat} (hat : at_ < es.length) :
    netOkB n (es.take at_ ++ es.drop (at_ + 1)) = true ∧ (es.take at_ ++ es.drop (at_ + 1)).length + 1 = es.length := by
  obtain ⟨⟨n2, n6⟩, h9, hev⟩ := netOkB_iff.1 hn
  have hl : (es.take at_ ++ es.drop (at_ + 1)).length + 1 = es.length := by simp; omega
  refine ⟨netOkB_iff.2 ⟨⟨n2, n6⟩, by omega, fun e he => hev e ?_⟩, hl⟩
  rw [List.mem_append] at he
  rcases he with he | he
  · exact List.mem_of_mem_take he
  · exact List.mem_of_mem_drop he
/-- A state of the net without the edge is one with a place put in. -/
theorem less_join {n : Int} {es : List (Int × Int)} (hn : netOkB n es = true) {at_ : Nat} (hat : at_ < es.length) (a b s : Nat) :
    joinS (es.take at_ ++ es.drop (at_ + 1)) a b s = joinS es a b (putR at_ s) := by
  obtain ⟨hn', hl⟩ := less_netOk hn hat
  have r1 := rep_ok (endsOf_ok hn') (fun i => s.testBit i) (es.take at_ ++ es.drop (at_ + 1)).length (Nat.le_refl _)
  have r2 := rep_ok (endsOf_ok hn) (fun i => (putR at_ s).testBit i) es.length (Nat.le_refl _)
  have f1 := r1.least _ (fun i hi hti => by
    have hti' : s.testBit i = true := hti
    rw [less_ends hat]
    refine r2.joins _ (by split <;> omega) ?_
    show (putR at_ s).testBit _ = true
    rw [putR_bit]
    by_cases h : i < at_
    · simp [h, hti']
    · simp [h, show ¬ i + 1 < at_ by omega, show ¬ i + 1 = at_ by omega, hti'])
  have f2 := r2.least _ (fun j hj htj => by
    have htj' : (putR at_ s).testBit j = true := htj
    rw [putR_bit] at htj'
    by_cases h : j < at_
    · rw [if_pos h] at htj'
      have := r1.joins j (by omega) htj'
      rw [less_ends hat, if_pos h] at this
      exact this
    · rw [if_neg h] at htj'
      by_cases h2 : j = at_
      · rw [if_pos h2] at htj'; cases htj'
      · rw [if_neg h2] at htj'
        have := r1.joins (j - 1) (by omega) htj'
        rw [less_ends hat, if_neg (by omega), show j - 1 + 1 = j by omega] at this
        exact this)
  rw [Bool.eq_iff_iff, joinS_iff, joinS_iff]
  constructor
  · intro h; rw [← f1 a, ← f1 b, h]
  · intro h; rw [← f2 a, ← f2 b, h]
theorem joinC_S {n : Int} {es : List (Int × Int)} (hn : netOkB n es = true) {a b : Nat} (ha : 1 ≤ a ∧ (a : Int) ≤ n) (hb : 1 ≤ b ∧ (b : Int) ≤ n) (k : Nat) :
    joinC es a b k = (List.range (2 ^ es.length)).countP (fun s => joinS es a b s && decide (pop s = k)) := by
  rw [← join_states hn ha hb]
  exact countP_same fun s hs => by rw [joinS_is hn ha hb hs]
theorem countP_sum {P A B : Nat → Bool} : ∀ l : List Nat, (∀ x ∈ l, (if P x = true then 1 else 0) = (if A x = true then 1 else 0) + (if B x = true then 1 else 0)) → l.countP P = l.countP A + l.countP B
  | [], _ => rfl
  | x :: l, h => by
    have h1 := h x (by simp)
    have h2 := countP_sum l (fun y hy => h y (by simp [hy]))
    simp only [List.countP_cons]
    omega
/-- Whether the edge counts in a state of the others. -/
def pivS (es : List (Int × Int)) (a b at_ s : Nat) : Bool := joinS es a b (putR at_ s + 2 ^ at_) && !joinS es a b (putR at_ s)
def pivC (es : List (Int × Int)) (a b at_ k : Nat) : Nat := (List.range (2 ^ (es.length - 1))).countP (fun s => pivS es a b at_ s && decide (pop s = k))
theorem put_sub (a s : Nat) : putR a s &&& (putR a s + 2 ^ a) = putR a s := sub_iff.2 fun i hi => by
  rw [putR_bit] at hi
  rw [putR_more]
  by_cases h1 : i < a
  · simpa [h1] using hi
  · by_cases h2 : i = a
    · simp [h2]
    · simpa [h1, h2] using hi
/-- Pivots are states with the edge less those without it. -/
theorem pivC_split {n : Int} {es : List (Int × Int)} (hn : netOkB n es = true) {a b at_ : Nat} (ha : 1 ≤ a ∧ (a : Int) ≤ n) (hb : 1 ≤ b ∧ (b : Int) ≤ n) (hat : at_ < es.length) (k : Nat) :
    joinC es a b (k + 1) = pivC es a b at_ k + joinC (es.take at_ ++ es.drop (at_ + 1)) a b k + joinC (es.take at_ ++ es.drop (at_ + 1)) a b (k + 1) := by
  obtain ⟨hn', hl⟩ := less_netOk hn hat
  have h9 := (netOkB_iff.1 hn).2.1
  obtain ⟨l, hl1⟩ : ∃ l, es.length = l + 1 := ⟨es.length - 1, by omega⟩
  have hl2 : (es.take at_ ++ es.drop (at_ + 1)).length = l := by omega
  have hP : 2 ^ l ≤ 512 := by
    have := Nat.pow_le_pow_right (n := 2) (by omega) (show l ≤ 9 by omega)
    omega
  rw [joinC_S hn ha hb, joinC_S hn' ha hb, joinC_S hn' ha hb, hl1, hl2, countP_put at_ l _ (by omega)]
  have e1 : (List.range (2 ^ l)).countP (fun s => joinS es a b (putR at_ s) && decide (pop (putR at_ s) = k + 1)) = (List.range (2 ^ l)).countP (fun s => joinS (es.take at_ ++ es.drop (at_ + 1)) a b s && decide (pop s = k + 1)) :=
    countP_same fun s hs => by rw [less_join hn hat, (pop_put at_ s (by omega) (by omega)).1]
  have e2 : (List.range (2 ^ l)).countP (fun s => joinS es a b (putR at_ s + 2 ^ at_) && decide (pop (putR at_ s + 2 ^ at_) = k + 1)) = pivC es a b at_ k + (List.range (2 ^ l)).countP (fun s => joinS (es.take at_ ++ es.drop (at_ + 1)) a b s && decide (pop s = k)) := by
    unfold pivC
    rw [hl1, Nat.add_sub_cancel]
    refine countP_sum _ fun s hs => ?_
    have hs' : s < 2 ^ l := by simpa using hs
    rw [less_join hn hat, (pop_put at_ s (by omega) (by omega)).2]
    unfold pivS
    have hup : joinS es a b (putR at_ s) = true → joinS es a b (putR at_ s + 2 ^ at_) = true := joinS_up hn a b _ _ (by rw [hl1]; exact putR_lt at_ l s (by omega) hs') (by rw [hl1]; exact putR_more_lt (by omega) hs') (put_sub at_ s)
    have hk : (pop s + 1 = k + 1) = (pop s = k) := by simp
    simp only [hk]
    cases h0 : joinS es a b (putR at_ s) with
    | true => rw [hup h0]; simp
    | false => cases joinS es a b (putR at_ s + 2 ^ at_) <;> simp
  rw [e1, e2]
  omega
end Go.Proofs.Ytlcgbmeneajfoac

/- Plain facts on pivots: all of them, the weight of an edge, paths and cuts. -/
namespace Go.Proofs.Ytlcgbmeneajfoac
set_option maxRecDepth 100000

theorem sumR_sum : ∀ (l : List (Nat × Nat)) (f : List (Nat × Nat) → Nat × Nat → Nat), sumR f l = sumN (fun i => f (l.take i ++ l.drop (i + 1)) (l.getD i (0, 0))) l.length
  | [], _ => rfl
  | x :: l, f => by
    rw [sumR, sumR_sum l, List.length_cons, sumN_first]
    rfl
theorem endsL_less (es : List (Int × Int)) (i : Nat) : endsL (es.take i ++ es.drop (i + 1)) = (endsL es).take i ++ (endsL es).drop (i + 1) := by
  simp [endsL]
/-- All pivots are told by counts. -/
theorem pivots_all {n : Int} {es : List (Int × Int)} (hn : netOkB n es = true) {a b : Nat} (ha : 1 ≤ a ∧ (a : Int) ≤ n) (hb : 1 ≤ b ∧ (b : Int) ≤ n) (k : Nat) (hk : k < es.length) :
    sumN (fun at_ => pivC es a b at_ k) es.length + (es.length - k) * joinC es a b k = (k + 1) * joinC es a b (k + 1) := by
  have hless : ∀ j, sumN (fun at_ => joinC (es.take at_ ++ es.drop (at_ + 1)) a b j) es.length = (es.length - j) * joinC es a b j := fun j => by
    have h1 := ways_lack (joinQ a b) (endsL es) (fun x => x) j
    rw [sumR_sum, endsL_length] at h1
    unfold joinC
    rw [← h1]
    exact sumN_congr _ fun i _ => by rw [endsL_less]
  have hsum : sumN (fun _ => joinC es a b (k + 1)) es.length = sumN (fun at_ => pivC es a b at_ k) es.length + sumN (fun at_ => joinC (es.take at_ ++ es.drop (at_ + 1)) a b k) es.length + sumN (fun at_ => joinC (es.take at_ ++ es.drop (at_ + 1)) a b (k + 1)) es.length := by
    rw [← sumN_add, ← sumN_add]
    exact sumN_congr _ fun i hi => pivC_split hn ha hb hi k
  have hconst : ∀ (c m : Nat), sumN (fun _ => c) m = m * c := fun c m => by
    induction m with
    | zero => simp [sumN]
    | succ m ih => rw [sumN, ih, Nat.succ_mul]
  rw [hconst, hless k, hless (k + 1)] at hsum
  have e : es.length * joinC es a b (k + 1) = (es.length - (k + 1)) * joinC es a b (k + 1) + (k + 1) * joinC es a b (k + 1) := by
    rw [← Nat.add_mul]; congr 1; omega
  omega

/-- By number of those there: all together. -/
theorem countP_by {Q : Nat → Bool} {m : Nat} : ∀ l : List Nat, (∀ s ∈ l, pop s < m) → sumN (fun k => l.countP (fun s => Q s && decide (pop s = k))) m = l.countP Q
  | [], _ => by
    have : ∀ m, sumN (fun _ => 0) m = 0 := fun m => by
      induction m with
      | zero => rfl
      | succ m ih => rw [sumN, ih]
    simpa using this m
  | x :: l, h => by
    have ih := countP_by (Q := Q) (m := m) l (fun s hs => h s (by simp [hs]))
    have hx := h x (by simp)
    have h1 : sumN (fun k => (x :: l).countP (fun s => Q s && decide (pop s = k))) m = sumN (fun k => l.countP (fun s => Q s && decide (pop s = k))) m + sumN (fun k => if Q x = true ∧ pop x = k then 1 else 0) m := by
      rw [← sumN_add]
      refine sumN_congr _ fun k _ => ?_
      rw [List.countP_cons]
      congr 1
      by_cases hq : Q x = true ∧ pop x = k
      · rw [if_pos hq]; simp [hq.1, hq.2]
      · rw [if_neg hq, if_neg]
        intro hh
        rw [Bool.and_eq_true, decide_eq_true_eq] at hh
        exact hq hh
    have h2 : ∀ m, sumN (fun k => if Q x = true ∧ pop x = k then 1 else 0) m = if Q x = true ∧ pop x < m then 1 else 0 := fun m => by
      induction m with
      | zero => simp [sumN]
      | succ m ih =>
        rw [sumN, ih]
        generalize pop x = v at *
        by_cases hq : Q x = true
        · simp only [hq, true_and]
          split <;> split <;> split <;> omega
        · simp [hq]
    rw [h1, h2, ih, List.countP_cons]
    congr 1
    by_cases hq : Q x = true
    · rw [if_pos ⟨hq, hx⟩, if_pos hq]
    · rw [if_neg (fun e => hq e.1), if_neg hq]

/-- A state without a place is one with a place put in. -/
theorem put_of : ∀ (a l s : Nat), a ≤ l → s < 2 ^ (l + 1) → s.testBit a = false → ∃ t, t < 2 ^ l ∧ putR a t = s
  | 0, l, s, _, hs, hb => by
    rw [Nat.testBit_zero] at hb
    have : s % 2 = 0 := by simp at hb; omega
    rw [Nat.pow_succ] at hs
    exact ⟨s / 2, by omega, by rw [putR]; omega⟩
  | a + 1, l, s, ha, hs, hb => by
    obtain ⟨l, rfl⟩ : ∃ l', l = l' + 1 := ⟨l - 1, by omega⟩
    rw [Nat.testBit_succ] at hb
    have hs' : s / 2 < 2 ^ (l + 1) := by rw [Nat.pow_succ] at hs; omega
    obtain ⟨t, ht, he⟩ := put_of a l (s / 2) (by omega) hs' hb
    refine ⟨2 * t + s % 2, by rw [Nat.pow_succ]; omega, ?_⟩
    rw [putR, show (2 * t + s % 2) / 2 = t by omega, show (2 * t + s % 2) % 2 = s % 2 by omega, he]
    omega
/-- What counts in some state is on some path; and the other way round. -/
theorem piv_path {n : Int} {es : List (Int × Int)} (hn : netOkB n es = true) {a b at_ : Nat} (hat : at_ < es.length) :
    (∃ s, s < 2 ^ (es.length - 1) ∧ pivS es a b at_ s = true) ↔ ∃ p, p ∈ leastL es.length (joinS es a b) ∧ p.testBit at_ = true := by
  have h9 := (netOkB_iff.1 hn).2.1
  obtain ⟨l, hl⟩ : ∃ l, es.length = l + 1 := ⟨es.length - 1, by omega⟩
  have hup := joinS_up hn a b
  constructor
  · rintro ⟨s, hs, hp⟩
    rw [hl, Nat.add_sub_cancel] at hs
    unfold pivS at hp
    rw [Bool.and_eq_true, Bool.not_eq_true'] at hp
    have h1 : putR at_ s + 2 ^ at_ < 2 ^ es.length := by rw [hl]; exact putR_more_lt (by omega) hs
    have h2 : putR at_ s < 2 ^ es.length := by rw [hl]; exact putR_lt at_ l s (by omega) hs
    obtain ⟨p, hp1, hp2, hp3⟩ := (least_in h9 hup h1).1 hp.1
    refine ⟨p, mem_leastL.2 ⟨hp1, hp2⟩, ?_⟩
    cases hb : p.testBit at_ with
    | true => rfl
    | false =>
      have hsub : p &&& putR at_ s = p := sub_iff.2 fun i hi => by
        have h3 := sub_iff.1 hp3 i hi
        rw [putR_more] at h3
        rw [putR_bit]
        by_cases i1 : i < at_
        · simpa [i1] using h3
        · by_cases i2 : i = at_
          · subst i2; rw [hb] at hi; cases hi
          · simpa [i1, i2] using h3
      have := hup p _ hp1 h2 hsub (least_iff.1 hp2).1
      rw [hp.2] at this; cases this
  · rintro ⟨p, hp, hb⟩
    obtain ⟨hp1, hp2⟩ := mem_leastL.1 hp
    have hlb := less_bits h9 hp1 hb
    have hno := (least_iff.1 hp2).2 at_ hat hb
    obtain ⟨t, ht, he⟩ := put_of at_ l (p - 2 ^ at_) (by omega) (by rw [← hl]; exact Nat.lt_of_le_of_lt (Nat.sub_le _ _) hp1) (by rw [hlb.2]; simp)
    refine ⟨t, by rw [hl, Nat.add_sub_cancel]; exact ht, ?_⟩
    unfold pivS
    rw [he, Nat.sub_add_cancel hlb.1, (least_iff.1 hp2).1, hno]; rfl
/-- What counts in a state is on a path and in a cut. -/
theorem piv_both {n : Int} {es : List (Int × Int)} (hn : netOkB n es = true) {a b at_ s : Nat} (hat : at_ < es.length) (hs : s < 2 ^ (es.length - 1)) (hp : pivS es a b at_ s = true) :
    (∃ p, p ∈ leastL es.length (joinS es a b) ∧ p.testBit at_ = true) ∧ ∃ c, c ∈ leastL es.length (dual es.length (joinS es a b)) ∧ c.testBit at_ = true := by
  have h9 := (netOkB_iff.1 hn).2.1
  obtain ⟨l, hl⟩ : ∃ l, es.length = l + 1 := ⟨es.length - 1, by omega⟩
  have hup := joinS_up hn a b
  refine ⟨(piv_path hn hat).1 ⟨s, hs, hp⟩, ?_⟩
  rw [hl, Nat.add_sub_cancel] at hs
  unfold pivS at hp
  rw [Bool.and_eq_true, Bool.not_eq_true'] at hp
  have h1 : putR at_ s + 2 ^ at_ < 2 ^ es.length := by rw [hl]; exact putR_more_lt (by omega) hs
  have h2 : putR at_ s < 2 ^ es.length := by rw [hl]; exact putR_lt at_ l s (by omega) hs
  have hd : dual es.length (joinS es a b) (rest es.length (putR at_ s)) = true := by unfold dual; rw [rest_rest h2, hp.2]; rfl
  obtain ⟨c, hc1, hc2, hc3⟩ := (least_in h9 hup.dual (rest_lt _ _)).1 hd
  refine ⟨c, mem_leastL.2 ⟨hc1, hc2⟩, ?_⟩
  cases hb : c.testBit at_ with
  | true => rfl
  | false =>
    have hsub : c &&& rest es.length (putR at_ s + 2 ^ at_) = c := sub_iff.2 fun i hi => by
      have h3 := sub_iff.1 hc3 i hi
      rw [rest_bit h2, Bool.and_eq_true] at h3
      rw [rest_bit h1, h3.1, Bool.true_and, putR_more]
      rw [putR_bit] at h3
      by_cases i1 : i < at_
      · simpa [i1] using h3.2
      · by_cases i2 : i = at_
        · subst i2; rw [hb] at hi; cases hi
        · simpa [i1, i2] using h3.2
    have := hup.dual c _ hc1 (rest_lt _ _) hsub (least_iff.1 hc2).1
    unfold dual at this
    rw [rest_rest h1, hp.1] at this; cases this
end Go.Proofs.Ytlcgbmeneajfoac

/- Pivots: the values of PivotOk, PivotCounts, AllPivots and WeightOf, and what their laws ask. -/
namespace Go.Proofs.Ytlcgbmeneajfoac
open Go.RowKit
set_option maxRecDepth 100000

/-- A state without an edge. -/
def clrN (k s : Nat) : Nat := if s.testBit k = true then s - 2 ^ k else s
theorem andNot_clr (k s : Nat) (hk : k < 9) (hs : s < 512) : Go.bits .andNot .i64 (s : Int) (wrap64 (2 ^ k)) = ((clrN k s : Nat) : Int) := by
  revert s; revert k; decide +kernel
theorem or_set (k s : Nat) (hk : k < 9) (hs : s < 512) : Go.bits .or .i64 (s : Int) (wrap64 (2 ^ k)) = ((clrN k s + 2 ^ k : Nat) : Int) := by
  revert s; revert k; decide +kernel
theorem clr_bit {k l s : Nat} (hl : l ≤ 9) (hs : s < 2 ^ l) (i : Nat) : (clrN k s).testBit i = (s.testBit i && decide (i ≠ k)) := by
  unfold clrN
  split
  next h => exact (less_bits hl hs h).2 i
  next h =>
    by_cases e : i = k
    · subst e; simpa using h
    · simp [e]
theorem clr_le (k s : Nat) : clrN k s ≤ s := by
  unfold clrN
  split
  · exact Nat.sub_le _ _
  · exact Nat.le_refl _
theorem clr_off {k l s : Nat} (hl : l ≤ 9) (hs : s < 2 ^ l) : (clrN k s).testBit k = false := by rw [clr_bit hl hs]; simp
theorem clr_same {k s : Nat} (h : s.testBit k = false) : clrN k s = s := by unfold clrN; rw [h]; rfl
theorem clr_put {k l s : Nat} (hk : k ≤ l) (hl : l + 1 ≤ 9) (hs : s < 2 ^ (l + 1)) : ∃ t, t < 2 ^ l ∧ putR k t = clrN k s :=
  put_of k l (clrN k s) hk (Nat.lt_of_le_of_lt (clr_le k s) hs) (clr_off hl hs)
theorem put_off (k t : Nat) : (putR k t).testBit k = false := by rw [putR_bit]; simp
theorem clr_of_put (k t : Nat) : clrN k (putR k t) = putR k t := clr_same (put_off k t)
theorem set_on (k t : Nat) : (putR k t + 2 ^ k).testBit k = true := by rw [putR_more]; simp
theorem clr_of_set (k t : Nat) : clrN k (putR k t + 2 ^ k) = putR k t := by unfold clrN; rw [set_on]; simp

def atIn (es : List (Int × Int)) (at_ : Int) : Bool := decide (0 ≤ at_) && decide (at_ < es.length)
def pivOkB (n : Int) (es : List (Int × Int)) (a b at_ : Int) : Bool := joinOkB n es a b && atIn es at_
theorem atIn_iff {es : List (Int × Int)} {at_ : Int} : atIn es at_ = true ↔ 0 ≤ at_ ∧ at_ < es.length := by simp [atIn]
theorem pivOkB_iff {n : Int} {es : List (Int × Int)} {a b at_ : Int} : pivOkB n es a b at_ = true ↔ joinOkB n es a b = true ∧ 0 ≤ at_ ∧ at_ < es.length := by
  rw [pivOkB, Bool.and_eq_true, atIn_iff]
def pivN (es : List (Int × Int)) (a b k s : Nat) : Bool := joinS es a b (clrN k s + 2 ^ k) && !joinS es a b (clrN k s)
def pivB (n : Int) (es : List (Int × Int)) (a b s at_ : Int) : Bool := stateOkB n es s && (pivOkB n es a b at_ && pivN es a.toNat b.toNat at_.toNat s.toNat)
theorem pivN_put (es : List (Int × Int)) (a b k t : Nat) : pivN es a b k (putR k t) = pivS es a b k t := by unfold pivN pivS; rw [clr_of_put]
theorem pivN_set (es : List (Int × Int)) (a b k t : Nat) : pivN es a b k (putR k t + 2 ^ k) = pivS es a b k t := by unfold pivN pivS; rw [clr_of_set]
def pivL (n : Int) (es : List (Int × Int)) (a b at_ : Int) : List Int := if pivOkB n es a b at_ = true then rowL (fun k => (pivC es a.toNat b.toNat at_.toNat k : Nat)) es.length else []
def allPL (n : Int) (es : List (Int × Int)) (a b : Int) : List Int := if joinOkB n es a b = true then rowL (fun k => (sumN (fun at_ => pivC es a.toNat b.toNat at_ k) es.length : Nat)) es.length else []
def wtI (n : Int) (es : List (Int × Int)) (a b at_ : Int) : Int := if pivOkB n es a b at_ = true then (sumN (fun k => pivC es a.toNat b.toNat at_.toNat k) es.length : Nat) else -1
theorem pivC_le (es : List (Int × Int)) (a b at_ k : Nat) : pivC es a b at_ k ≤ 2 ^ (es.length - 1) := by
  have := List.countP_le_length (p := fun s => pivS es a b at_ s && decide (pop s = k)) (l := List.range (2 ^ (es.length - 1)))
  rw [List.length_range] at this
  exact this
theorem pivC_small {n : Int} {es : List (Int × Int)} {a b : Int} (h : joinOkB n es a b = true) (x y at_ k : Nat) : pivC es x y at_ k ≤ 256 := by
  have h9 := joinOk_nine h
  have h1 := pivC_le es x y at_ k
  have h2 : 2 ^ (es.length - 1) ≤ 2 ^ 8 := Nat.pow_le_pow_right (by omega) (by omega)
  exact Nat.le_trans h1 h2
theorem sumN_small {f : Nat → Nat} {c : Nat} (h : ∀ k, f k ≤ c) : ∀ m, sumN f m ≤ m * c
  | 0 => by simp [sumN]
  | m + 1 => by
    have h1 := sumN_small h m
    have h2 := h m
    rw [sumN, Nat.succ_mul]; omega
theorem pivL_length {n : Int} {es : List (Int × Int)} {a b at_ : Int} (h : pivOkB n es a b at_ = true) : (pivL n es a b at_).length = es.length := by unfold pivL; rw [if_pos h, rowL_length]
theorem pivL_not {n : Int} {es : List (Int × Int)} {a b at_ : Int} (h : ¬ pivOkB n es a b at_ = true) : pivL n es a b at_ = [] := if_neg h
theorem pivL_get {n : Int} {es : List (Int × Int)} {a b at_ : Int} (h : pivOkB n es a b at_ = true) {k : Nat} (hk : k < es.length) : (pivL n es a b at_).getD k 0 = (pivC es a.toNat b.toNat at_.toNat k : Nat) := by
  unfold pivL; rw [if_pos h, rowL_getD _ hk]
theorem pivL_le (n : Int) (es : List (Int × Int)) (a b at_ : Int) : (pivL n es a b at_).length ≤ 10 := by
  by_cases h : pivOkB n es a b at_ = true
  · rw [pivL_length h]; have := joinOk_nine (pivOkB_iff.1 h).1; omega
  · rw [pivL_not h]; simp
theorem allPL_le (n : Int) (es : List (Int × Int)) (a b : Int) : (allPL n es a b).length ≤ 10 := by
  unfold allPL
  split
  next h => rw [rowL_length]; have := joinOk_nine h; omega
  next => simp
/-- The counts as a loop over all states of the others makes them. -/
theorem piv_cnt {n : Int} {es : List (Int × Int)} {a b at_ : Int} (h : pivOkB n es a b at_ = true) : cntR (pivS es a.toNat b.toNat at_.toNat) (2 ^ (es.length - 1)) es.length = pivL n es a b at_ := by
  unfold pivL; rw [if_pos h]; rfl
theorem piv_parts {n : Int} {es : List (Int × Int)} {a b at_ : Int} (h : pivOkB n es a b at_ = true) :
    netOkB n es = true ∧ es.length ≤ 9 ∧ (1 ≤ a.toNat ∧ (a.toNat : Int) ≤ n) ∧ (1 ≤ b.toNat ∧ (b.toNat : Int) ≤ n) ∧ a.toNat ≠ b.toNat ∧ at_.toNat < es.length ∧ (at_.toNat : Int) = at_ := by
  obtain ⟨h1, h2, h3⟩ := pivOkB_iff.1 h
  obtain ⟨p1, p2, p3, p4, p5⟩ := ok_parts h1
  exact ⟨p1, p2, p3, p4, p5, by omega, by omega⟩
theorem pivOkB_swap (n : Int) (es : List (Int × Int)) (a b at_ : Int) : pivOkB n es b a at_ = pivOkB n es a b at_ := by
  have h : joinOkB n es b a = joinOkB n es a b := by
    rw [Bool.eq_iff_iff, joinOkB_iff, joinOkB_iff]
    constructor
    · rintro ⟨h1, h2, h3, h4⟩; exact ⟨h1, h3, h2, fun e => h4 e.symm⟩
    · rintro ⟨h1, h2, h3, h4⟩; exact ⟨h1, h3, h2, fun e => h4 e.symm⟩
  unfold pivOkB; rw [h]
theorem pivC_swap (es : List (Int × Int)) (a b at_ k : Nat) : pivC es b a at_ k = pivC es a b at_ k := by
  unfold pivC pivS
  refine countP_same fun s _ => ?_
  rw [joinS_swap es a b, joinS_swap es a b]
theorem pivL_swap (n : Int) (es : List (Int × Int)) (a b at_ : Int) : pivL n es b a at_ = pivL n es a b at_ := by
  unfold pivL
  rw [pivOkB_swap]
  split
  · exact rowL_congr fun k _ => by rw [pivC_swap]
  · rfl

/-- One of the first k has the edge. -/
def bitTo (xs : List Nat) (i : Nat) : Nat → Bool
  | 0 => false
  | k + 1 => bitTo xs i k || (xs.getD k 0).testBit i
theorem bitTo_iff (xs : List Nat) (i : Nat) : ∀ k, bitTo xs i k = true ↔ ∃ j, j < k ∧ (xs.getD j 0).testBit i = true
  | 0 => by simp [bitTo]
  | k + 1 => by
    rw [bitTo, Bool.or_eq_true, bitTo_iff xs i k]
    constructor
    · rintro (⟨j, h1, h2⟩ | h)
      · exact ⟨j, by omega, h2⟩
      · exact ⟨k, by omega, h⟩
    · rintro ⟨j, h1, h2⟩
      by_cases e : j = k
      · subst e; exact .inr h2
      · exact .inl ⟨j, by omega, h2⟩
theorem bitTo_all (xs : List Nat) (i : Nat) : bitTo xs i xs.length = true ↔ ∃ x, x ∈ xs ∧ x.testBit i = true := by
  rw [bitTo_iff]
  constructor
  · rintro ⟨j, hj, h⟩; exact ⟨_, getD_in hj, h⟩
  · rintro ⟨x, hx, h⟩
    obtain ⟨j, hj, e⟩ := getD_of_mem hx
    exact ⟨j, hj, by rw [e]; exact h⟩
/-- Pivots are on a path and in a cut. -/
theorem pivB_law {n : Int} {es : List (Int × Int)} {a b s at_ : Int} (h : pivB n es a b s at_ = true) :
    bitTo (pathsN n es a b) at_.toNat (pathsN n es a b).length = true ∧ bitTo (cutsN n es a b) at_.toNat (cutsN n es a b).length = true := by
  rw [pivB, Bool.and_eq_true, Bool.and_eq_true] at h
  obtain ⟨hs, hok, hp⟩ := h
  obtain ⟨hn, h9, ha, hb, hab, hat, -⟩ := piv_parts hok
  have hj := (pivOkB_iff.1 hok).1
  obtain ⟨-, hs0, hs1⟩ := stateOkB_iff.1 hs
  obtain ⟨l, hl⟩ : ∃ l, es.length = l + 1 := ⟨es.length - 1, by omega⟩
  have hsl : s.toNat < 2 ^ (l + 1) := by
    rw [← hl]
    have : ((s.toNat : Nat) : Int) < ((2 ^ es.length : Nat) : Int) := by rw [Int.natCast_pow]; have : ((2 : Nat) : Int) = 2 := rfl; rw [this]; omega
    exact Int.ofNat_lt.1 this
  obtain ⟨t, ht, he⟩ := clr_put (k := at_.toNat) (by omega) (by omega) hsl
  have hp' : pivS es a.toNat b.toNat at_.toNat t = true := by
    rw [← hp]; unfold pivS pivN; rw [he]
  obtain ⟨⟨p, p1, p2⟩, c, c1, c2⟩ := piv_both hn hat (by rw [hl, Nat.add_sub_cancel]; exact ht) hp'
  rw [bitTo_all, bitTo_all]
  exact ⟨⟨p, by rw [pathsN, if_pos hj]; exact p1, p2⟩, c, by rw [cutsN, if_pos hj]; exact c1, c2⟩
/-- The weight of an edge. -/
theorem wt_law {n : Int} {es : List (Int × Int)} {a b at_ : Int} (h : pivOkB n es a b at_ = true) :
    ∃ v : Nat, wtI n es a b at_ = v ∧ v ≤ 2 ^ (es.length - 1) ∧ decide (0 < v) = bitTo (pathsN n es a b) at_.toNat (pathsN n es a b).length := by
  obtain ⟨hn, h9, ha, hb, hab, hat, -⟩ := piv_parts h
  have hj := (pivOkB_iff.1 h).1
  have hby : sumN (fun k => pivC es a.toNat b.toNat at_.toNat k) es.length = (List.range (2 ^ (es.length - 1))).countP (fun s => pivS es a.toNat b.toNat at_.toNat s) :=
    countP_by (List.range (2 ^ (es.length - 1))) fun s hs => by
      have hs' : s < 2 ^ (es.length - 1) := by simpa using hs
      have := pop_low hs' (by omega)
      omega
  refine ⟨_, if_pos h, ?_, ?_⟩
  · rw [hby]
    have := List.countP_le_length (p := fun s => pivS es a.toNat b.toNat at_.toNat s) (l := List.range (2 ^ (es.length - 1)))
    rw [List.length_range] at this; exact this
  · rw [Bool.eq_iff_iff, decide_eq_true_eq, bitTo_all, hby, List.countP_pos_iff, pathsN, if_pos hj, ← piv_path hn hat]
    constructor
    · rintro ⟨s, h1, h2⟩; exact ⟨s, by simpa using h1, h2⟩
    · rintro ⟨s, h1, h2⟩; exact ⟨s, by simpa using h1, h2⟩
theorem wt_not {n : Int} {es : List (Int × Int)} {a b at_ : Int} (h : ¬ pivOkB n es a b at_ = true) : wtI n es a b at_ = -1 := if_neg h
/-- All pivots: one more than the number times the next count, less the edges less the number times its own. -/
theorem all_law {n : Int} {es : List (Int × Int)} {a b : Int} (h : joinOkB n es a b = true) {k : Nat} (hk : k < es.length) :
    ((sumN (fun at_ => pivC es a.toNat b.toNat at_ k) es.length : Nat) : Int) = ((k : Int) + 1) * (joinC es a.toNat b.toNat (k + 1) : Nat) - ((es.length : Int) - k) * (joinC es a.toNat b.toNat k : Nat) := by
  obtain ⟨hn, h9, ha, hb, hab⟩ := ok_parts h
  have h1 := pivots_all hn ha hb k hk
  have e1 : ((k : Int) + 1) * (joinC es a.toNat b.toNat (k + 1) : Nat) = (((k + 1) * joinC es a.toNat b.toNat (k + 1) : Nat) : Int) := by rw [Int.natCast_mul]; rfl
  have e2 : ((es.length : Int) - k) * (joinC es a.toNat b.toNat k : Nat) = (((es.length - k) * joinC es a.toNat b.toNat k : Nat) : Int) := by rw [Int.natCast_mul, Int.ofNat_sub (by omega)]
  rw [e1, e2, ← h1]
  generalize (es.length - k) * joinC es a.toNat b.toNat k = y
  omega
end Go.Proofs.Ytlcgbmeneajfoac
