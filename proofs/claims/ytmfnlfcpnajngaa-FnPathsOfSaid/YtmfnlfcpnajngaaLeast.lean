/- Plain facts on least states of what goes on working: paths and cuts. -/
import Derived.Test.YtmfnlfcpnajngaaMore3
namespace Go.Proofs.Ytmfnlfcpnajngaa
set_option maxRecDepth 100000

theorem sub_iff {s t : Nat} : s &&& t = s ↔ ∀ i, s.testBit i = true → t.testBit i = true := by
  constructor
  · intro h i hi
    have : (s &&& t).testBit i = true := by rw [h]; exact hi
    rw [Nat.testBit_and, Bool.and_eq_true] at this
    exact this.2
  · intro h
    apply Nat.eq_of_testBit_eq
    intro i
    rw [Nat.testBit_and]
    cases hs : s.testBit i with
    | false => rfl
    | true => rw [h i hs]; rfl
theorem disj_iff {s t : Nat} : s &&& t = 0 ↔ ∀ i, s.testBit i = true → t.testBit i = false := by
  constructor
  · intro h i hi
    have : (s &&& t).testBit i = false := by rw [h]; exact Nat.zero_testBit i
    rw [Nat.testBit_and, hi, Bool.true_and] at this
    exact this
  · intro h
    apply Nat.eq_of_testBit_eq
    intro i
    rw [Nat.testBit_and, Nat.zero_testBit]
    cases hs : s.testBit i with
    | false => rfl
    | true => rw [h i hs]; rfl
theorem sub_trans {s t u : Nat} (h : s &&& t = s) (k : t &&& u = t) : s &&& u = s := sub_iff.2 fun i hi => sub_iff.1 k i (sub_iff.1 h i hi)
theorem sub_anti {s t : Nat} (h : s &&& t = s) (k : t &&& s = t) : s = t := by rw [← h, Nat.and_comm, k]
theorem high_bit {s l : Nat} (h : s < 2 ^ l) {i : Nat} (hi : s.testBit i = true) : i < l := by
  rcases Nat.lt_or_ge i l with h1 | h1
  · exact h1
  · rw [Nat.testBit_lt_two_pow (Nat.lt_of_lt_of_le h (Nat.pow_le_pow_right (by omega) h1))] at hi; cases hi
/-- What is left of all. -/
def rest (l s : Nat) : Nat := 2 ^ l - 1 - s
theorem rest_bit {l s : Nat} (h : s < 2 ^ l) (i : Nat) : (rest l s).testBit i = (decide (i < l) && !s.testBit i) := by
  unfold rest
  rw [show 2 ^ l - 1 - s = 2 ^ l - (s + 1) by omega]
  exact Nat.testBit_two_pow_sub_succ h i
theorem rest_lt (l s : Nat) : rest l s < 2 ^ l := by
  have := Nat.one_le_two_pow (n := l)
  unfold rest; omega
theorem rest_rest {l s : Nat} (h : s < 2 ^ l) : rest l (rest l s) = s := by unfold rest; omega
theorem rest_sub {l s t : Nat} (hs : s < 2 ^ l) (ht : t < 2 ^ l) (h : s &&& t = s) : rest l t &&& rest l s = rest l t := by
  refine sub_iff.2 fun i hi => ?_
  rw [rest_bit ht, Bool.and_eq_true] at hi
  rw [rest_bit hs, hi.1, Bool.true_and]
  cases hb : s.testBit i with
  | false => rfl
  | true => have := sub_iff.1 h i hb; simp [this] at hi
theorem rest_disj {l s t : Nat} (hs : s < 2 ^ l) (ht : t < 2 ^ l) : s &&& t = 0 ↔ s &&& rest l t = s := by
  rw [disj_iff, sub_iff]
  constructor
  · intro h i hi; rw [rest_bit ht, h i hi]; simp [high_bit hs hi]
  · intro h i hi; have := h i hi; rw [rest_bit ht, Bool.and_eq_true] at this; simpa using this.2

/-- What goes on working with more. -/
def UpS (l : Nat) (J : Nat → Bool) : Prop := ∀ s t, s < 2 ^ l → t < 2 ^ l → s &&& t = s → J s = true → J t = true
def dual (l : Nat) (J : Nat → Bool) (s : Nat) : Bool := !J (rest l s)
theorem UpS.dual {l : Nat} {J : Nat → Bool} (h : UpS l J) : UpS l (dual l J) := fun s t hs ht hst hJ => by
  unfold Go.Proofs.Ytmfnlfcpnajngaa.dual at hJ ⊢
  cases hc : J (rest l t) with
  | false => rfl
  | true => rw [h _ _ (rest_lt l t) (rest_lt l s) (rest_sub hs ht hst) hc] at hJ; cases hJ
theorem dual_dual {l : Nat} {J : Nat → Bool} {s : Nat} (h : s < 2 ^ l) : dual l (dual l J) s = J s := by unfold dual; rw [rest_rest h, Bool.not_not]

/-- Least: it works, but not without any one of it. -/
def leastB (l : Nat) (J : Nat → Bool) (s : Nat) : Bool := J s && (List.range l).all fun k => !s.testBit k || !J (s - 2 ^ k)
theorem least_iff {l : Nat} {J : Nat → Bool} {s : Nat} : leastB l J s = true ↔ J s = true ∧ ∀ k, k < l → s.testBit k = true → J (s - 2 ^ k) = false := by
  unfold leastB
  rw [Bool.and_eq_true, List.all_eq_true]
  refine and_congr_right fun _ => ⟨fun h k hk hb => ?_, fun h k hk => ?_⟩
  · have := h k (by simpa using hk); simpa [hb] using this
  · cases hb : s.testBit k with
    | false => rfl
    | true => simp [h k (by simpa using hk) hb]
theorem less_bits {l s k : Nat} (hl : l ≤ 9) (hs : s < 2 ^ l) (hb : s.testBit k = true) : 2 ^ k ≤ s ∧ ∀ i, (s - 2 ^ k).testBit i = (s.testBit i && decide (i ≠ k)) := by
  have hk : k < l := high_bit hs hb
  have h9 : s < 512 := Nat.lt_of_lt_of_le hs (by have := Nat.pow_le_pow_right (n := 2) (by omega) hl; omega)
  have h := sub_bit9 k (by omega) s h9 hb
  refine ⟨h.1, fun i => ?_⟩
  by_cases hi : i < 9
  · exact h.2 i hi
  · have e1 : s.testBit i = false := Nat.testBit_lt_two_pow (Nat.lt_of_lt_of_le h9 (by have := Nat.pow_le_pow_right (n := 2) (by omega) (show 9 ≤ i by omega); omega))
    have e2 : (s - 2 ^ k).testBit i = false := Nat.testBit_lt_two_pow (Nat.lt_of_lt_of_le (Nat.lt_of_le_of_lt (Nat.sub_le _ _) h9) (by have := Nat.pow_le_pow_right (n := 2) (by omega) (show 9 ≤ i by omega); omega))
    rw [e1, e2]; rfl
theorem less_sub {l s k : Nat} (hl : l ≤ 9) (hs : s < 2 ^ l) (hb : s.testBit k = true) : (s - 2 ^ k) &&& s = s - 2 ^ k := by
  refine sub_iff.2 fun i hi => ?_
  rw [(less_bits hl hs hb).2 i, Bool.and_eq_true] at hi
  exact hi.1
theorem least_exists {l : Nat} {J : Nat → Bool} (hl : l ≤ 9) : ∀ (f s : Nat), s < f → s < 2 ^ l → J s = true → ∃ p, p < 2 ^ l ∧ leastB l J p = true ∧ p &&& s = p
  | 0, s, hf, _, _ => by omega
  | f + 1, s, hf, hs, hJ => by
    by_cases h : leastB l J s = true
    · exact ⟨s, hs, h, Nat.and_self s⟩
    · have : ∃ k, k < l ∧ s.testBit k = true ∧ J (s - 2 ^ k) = true := Classical.byContradiction fun hn => h (least_iff.2 ⟨hJ, fun k hk hb => by
        cases hc : J (s - 2 ^ k) with
        | false => rfl
        | true => exact absurd ⟨k, hk, hb, hc⟩ hn⟩)
      obtain ⟨k, hk, hb, hc⟩ := this
      have h1 := (less_bits hl hs hb).1
      have h2 : 1 ≤ 2 ^ k := Nat.one_le_two_pow
      obtain ⟨p, hp, hlp, hps⟩ := least_exists hl f (s - 2 ^ k) (by omega) (by omega) hc
      exact ⟨p, hp, hlp, sub_trans hps (less_sub hl hs hb)⟩
/-- What works has a least one. -/
theorem least_in {l : Nat} {J : Nat → Bool} (hl : l ≤ 9) (hJ : UpS l J) {s : Nat} (hs : s < 2 ^ l) : J s = true ↔ ∃ p, p < 2 ^ l ∧ leastB l J p = true ∧ p &&& s = p :=
  ⟨fun h => least_exists hl (s + 1) s (by omega) hs h, fun ⟨p, hp, hlp, hps⟩ => hJ p s hp hs hps (least_iff.1 hlp).1⟩
/-- No least one has all of another one. -/
theorem least_anti {l : Nat} {J : Nat → Bool} (hl : l ≤ 9) (hJ : UpS l J) {p q : Nat} (hp : p < 2 ^ l) (hq : q < 2 ^ l) (h1 : leastB l J p = true) (h2 : leastB l J q = true) (h : p &&& q = p) : p = q := by
  refine sub_anti h (sub_iff.2 fun i hi => ?_)
  cases hb : p.testBit i with
  | true => rfl
  | false =>
    have h3 := (least_iff.1 h2).2 i (high_bit hq hi) hi
    have h4 : p &&& (q - 2 ^ i) = p := sub_iff.2 fun j hj => by
      rw [(less_bits hl hq hi).2 j, sub_iff.1 h j hj]
      have : j ≠ i := fun e => by rw [e, hb] at hj; cases hj
      simp [this]
    have h5 := hJ p (q - 2 ^ i) hp (Nat.lt_of_le_of_lt (Nat.sub_le _ _) hq) h4 (least_iff.1 h1).1
    rw [h3] at h5; cases h5
/-- Each least one has something in common with each least one of the dual. -/
theorem least_meets {l : Nat} {J : Nat → Bool} (hJ : UpS l J) {p c : Nat} (hp : p < 2 ^ l) (hc : c < 2 ^ l) (h1 : J p = true) (h2 : dual l J c = true) : p &&& c ≠ 0 := fun h => by
  have h3 := hJ p (rest l c) hp (rest_lt l c) ((rest_disj hp hc).1 h) h1
  unfold dual at h2; rw [h3] at h2; cases h2
/-- It works exactly if it has something in common with each least one of the dual. -/
theorem works_meets {l : Nat} {J : Nat → Bool} (hl : l ≤ 9) (hJ : UpS l J) {s : Nat} (hs : s < 2 ^ l) : J s = true ↔ ∀ c, c < 2 ^ l → leastB l (dual l J) c = true → c &&& s ≠ 0 := by
  constructor
  · intro h c hc hlc e
    rw [Nat.and_comm] at e
    exact least_meets hJ hs hc h (least_iff.1 hlc).1 e
  · intro h
    cases hj : J s with
    | true => rfl
    | false =>
      have hd : dual l J (rest l s) = true := by unfold dual; rw [rest_rest hs, hj]; rfl
      obtain ⟨c, hc, hlc, hcs⟩ := (least_in hl hJ.dual (rest_lt l s)).1 hd
      exact absurd ((rest_disj hc hs).2 hcs) (h c hc hlc)
/-- The least ones in ascending order. -/
def leastL (l : Nat) (J : Nat → Bool) : List Nat := (List.range (2 ^ l)).filter (leastB l J)
theorem mem_leastL {l : Nat} {J : Nat → Bool} {p : Nat} : p ∈ leastL l J ↔ p < 2 ^ l ∧ leastB l J p = true := by
  unfold leastL; rw [List.mem_filter, List.mem_range]
theorem leastL_sorted (l : Nat) (J : Nat → Bool) : (leastL l J).Pairwise (· < ·) := List.Pairwise.filter _ List.pairwise_lt_range
end Go.Proofs.Ytmfnlfcpnajngaa
