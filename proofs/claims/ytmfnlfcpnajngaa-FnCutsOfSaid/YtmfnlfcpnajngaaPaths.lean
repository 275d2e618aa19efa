/- Plain facts on the paths and cuts of a net. -/
import Derived.Test.YtmfnlfcpnajngaaLeast
import Derived.Test.YtmfnlfcpnajngaaCounts5
import Derived.Test.YtmfnlfcpnajngaaEdgesAt
namespace Go.Proofs.Ytmfnlfcpnajngaa
set_option maxRecDepth 100000

/-- A state joins both nodes. -/
def joinS (es : List (Int × Int)) (a b : Nat) (s : Nat) : Bool := decide (rep (endsOf es) (fun i => s.testBit i) es.length a = rep (endsOf es) (fun i => s.testBit i) es.length b)
theorem joinS_iff {es : List (Int × Int)} {a b s : Nat} : joinS es a b s = true ↔ rep (endsOf es) (fun i => s.testBit i) es.length a = rep (endsOf es) (fun i => s.testBit i) es.length b := by
  unfold joinS; rw [decide_eq_true_eq]
theorem joinS_is {n : Int} {es : List (Int × Int)} (hn : netOkB n es = true) {a b s : Nat} (ha : 1 ≤ a ∧ (a : Int) ≤ n) (hb : 1 ≤ b ∧ (b : Int) ≤ n) (hs : s < 2 ^ es.length) : joinedB n es s a b = joinS es a b s := by
  rw [Bool.eq_iff_iff, joined_iff, joinS_iff]
  constructor
  · rintro ⟨_, _, _, h⟩; exact h
  · intro h; exact ⟨state_of hn hs, ⟨by omega, ha.2⟩, ⟨by omega, hb.2⟩, h⟩
theorem joinS_up {n : Int} {es : List (Int × Int)} (hn : netOkB n es = true) (a b : Nat) : UpS es.length (joinS es a b) := fun s t _ _ hst hJ => by
  have hE := endsOf_ok hn
  exact joinS_iff.2 ((rep_ok hE (fun i => s.testBit i) es.length (Nat.le_refl _)).mono (rep_ok hE (fun i => t.testBit i) es.length (Nat.le_refl _)) (Nat.le_refl _) (fun i _ hi => sub_iff.1 hst i hi) (joinS_iff.1 hJ))
theorem joinS_swap (es : List (Int × Int)) (a b s : Nat) : joinS es b a s = joinS es a b s := by
  rw [Bool.eq_iff_iff, joinS_iff, joinS_iff]; exact eq_comm
theorem joinS_zero (es : List (Int × Int)) {a b : Nat} (h : a ≠ b) : joinS es a b 0 = false := by
  cases hj : joinS es a b 0 with
  | false => rfl
  | true =>
    have : ∀ k x, rep (endsOf es) (fun i => (0 : Nat).testBit i) k x = x := by
      intro k
      induction k with
      | zero => intro x; rfl
      | succ k ih =>
        intro x
        have := ih x
        simp only [Nat.zero_testBit] at this
        simpa [rep] using this
    rw [joinS_iff, this, this] at hj
    exact absurd hj h

theorem card_mono {T T' : Nat → Bool} : ∀ m, (∀ i, i < m → T i = true → T' i = true) → card T m ≤ card T' m
  | 0, _ => by simp [card]
  | m + 1, h => by
    have h1 := card_mono m (fun i hi => h i (by omega))
    have h2 := h m (by omega)
    simp only [card]
    by_cases ht : T m = true
    · rw [if_pos ht, if_pos (h2 ht)]; omega
    · rw [if_neg ht]; omega
theorem pop_sub {l s t : Nat} (hl : l ≤ 9) (hs : s < 2 ^ l) (ht : t < 2 ^ l) (h : s &&& t = s) : pop s ≤ pop t := by
  rw [pop_card hs hl, pop_card ht hl]
  exact card_mono l fun i _ hi => sub_iff.1 h i hi

/-- A path has no ring. -/
theorem path_free {n : Int} {es : List (Int × Int)} (hn : netOkB n es = true) {a b p : Nat} (hp : p < 2 ^ es.length) (h : leastB es.length (joinS es a b) p = true) :
    pcs (endsOf es) (fun i => p.testBit i) es.length n.toNat + card (fun i => p.testBit i) es.length = n.toNat := by
  have hE := endsOf_ok hn
  have h9 := (netOkB_iff.1 hn).2.1
  refine free_of hE fun k hk ht => ?_
  have hlt := less_bits h9 hp ht
  have hfun : (fun i => (p - 2 ^ k).testBit i) = fun i => p.testBit i && decide (i ≠ k) := funext hlt.2
  have hno := (least_iff.1 h).2 k hk ht
  have hm := pcs_more (T := fun i => p.testBit i && decide (i ≠ k)) (T' := fun i => p.testBit i) hE hk (fun i _ => by
    by_cases hik : i = k
    · subst hik; simp [ht]
    · simp [hik])
  have hne : ¬ rep (endsOf es) (fun i => p.testBit i && decide (i ≠ k)) es.length (endsOf es k).1 = rep (endsOf es) (fun i => p.testBit i && decide (i ≠ k)) es.length (endsOf es k).2 := fun e => by
    have r1 := rep_ok hE (fun i => p.testBit i) es.length (Nat.le_refl _)
    have r2 := rep_ok hE (fun i => p.testBit i && decide (i ≠ k)) es.length (Nat.le_refl _)
    have hF := r1.least (rep (endsOf es) (fun i => p.testBit i && decide (i ≠ k)) es.length) (fun i hi hti => by
      by_cases hik : i = k
      · rw [hik]; exact e
      · exact r2.joins i hi (by simp [hti, hik]))
    have hab := joinS_iff.1 (least_iff.1 h).1
    have : joinS es a b (p - 2 ^ k) = true := by
      rw [joinS_iff, hfun, ← hF a, ← hF b, hab]
    rw [hno] at this; cases this
  rw [if_neg hne] at hm
  exact hm
theorem path_lt {n : Int} {es : List (Int × Int)} (hn : netOkB n es = true) {a b p : Nat} (hp : p < 2 ^ es.length) (h : leastB es.length (joinS es a b) p = true) : (pop p : Int) < n := by
  have h1 := netOkB_iff.1 hn
  have h2 := path_free hn hp h
  have h3 := pcs_pos (endsOf_ok hn) (T := fun i => p.testBit i) (show 1 ≤ n.toNat by omega)
  rw [pop_card hp h1.2.1]
  omega

/-- The edges at a node. -/
def atS (es : List (Int × Int)) (v : Int) : Nat → Nat
  | 0 => 0
  | k + 1 => atS es v k + if endB v (es.getD k (0, 0)) = true then 2 ^ k else 0
theorem atS_lt (es : List (Int × Int)) (v : Int) : ∀ k, atS es v k < 2 ^ k
  | 0 => by simp [atS]
  | k + 1 => by
    have := atS_lt es v k
    rw [atS, Nat.pow_succ]
    split <;> omega
theorem atS_bit (es : List (Int × Int)) (v : Int) : ∀ k i, (atS es v k).testBit i = (decide (i < k) && endB v (es.getD i (0, 0)))
  | 0, i => by simp [atS]
  | k + 1, i => by
    have hlt := atS_lt es v k
    have ih := atS_bit es v k i
    rw [atS]
    by_cases hb : endB v (es.getD k (0, 0)) = true
    · rw [if_pos hb, Nat.add_comm]
      rcases Nat.lt_trichotomy i k with hi | hi | hi
      · rw [Nat.testBit_two_pow_add_gt hi, ih]; simp [hi, show i < k + 1 by omega]
      · subst hi; rw [Nat.testBit_two_pow_add_eq, ih, hb]; simp
      · have h2 : 2 ^ k + atS es v k < 2 ^ (k + 1) := by rw [Nat.pow_succ]; omega
        rw [Nat.testBit_lt_two_pow (Nat.lt_of_lt_of_le h2 (Nat.pow_le_pow_right (by omega) (show k + 1 ≤ i by omega)))]
        simp [show ¬ i < k + 1 by omega]
    · rw [if_neg hb, Nat.add_zero, ih]
      by_cases hi : i = k
      · subst hi
        have hb' : endB v (es.getD i (0, 0)) = false := by cases h : endB v (es.getD i (0, 0)) with
          | false => rfl
          | true => exact absurd h hb
        rw [hb']; simp
      · by_cases hik : i < k
        · simp [hik, show i < k + 1 by omega]
        · simp [hik, show ¬ i < k + 1 by omega]
theorem atS_pop {es : List (Int × Int)} (h9 : es.length ≤ 9) (v : Int) : pop (atS es v es.length) = es.countP (endB v) := by
  rw [pop_card (atS_lt es v es.length) h9]
  have hc : ∀ k, k ≤ es.length → card (fun i => (atS es v es.length).testBit i) k = (es.take k).countP (endB v) := by
    intro k
    induction k with
    | zero => intro _; simp [card]
    | succ k ih =>
      intro hk
      have hk' : k < es.length := by omega
      have hgd : es.getD k (0, 0) = es[k] := by simp [List.getD, hk']
      rw [card, ih (by omega), countP_take_succ hk', atS_bit, hgd]
      simp [hk']
  rw [hc _ (Nat.le_refl _), List.take_length]
/-- Without the edges at one node it is joined to none. -/
theorem at_cut {n : Int} {es : List (Int × Int)} (hn : netOkB n es = true) {a b : Nat} (hab : a ≠ b) (v : Nat) (hv : v = a ∨ v = b) : dual es.length (joinS es a b) (atS es v es.length) = true := by
  unfold dual
  cases hj : joinS es a b (rest es.length (atS es v es.length)) with
  | false => rfl
  | true =>
    exfalso
    rw [joinS_iff] at hj
    have hE := endsOf_ok hn
    have hev := (netOkB_iff.1 hn).2.2
    have r := rep_ok hE (fun i => (rest es.length (atS es v es.length)).testBit i) es.length (Nat.le_refl _)
    have hF := r.least (fun x => if x = v then 0 else 1) (fun i hi hti => by
      have hti' : (rest es.length (atS es v es.length)).testBit i = true := hti
      rw [rest_bit (atS_lt es v es.length), atS_bit] at hti'
      have hgd : es.getD i (0, 0) = es[i] := by simp [List.getD, hi]
      rw [hgd] at hti'
      have hend : endB v es[i] = false := by simpa [hi] using hti'
      have hfit := hev es[i] (List.getElem_mem hi)
      have he : endsOf es i = (es[i].1.toNat, es[i].2.toNat) := by unfold endsOf; rw [List.getElem?_eq_getElem hi]
      simp only [endB, Bool.or_eq_false_iff, decide_eq_false_iff_not] at hend
      show (if (endsOf es i).1 = v then 0 else 1) = (if (endsOf es i).2 = v then 0 else 1)
      rw [he]
      rw [if_neg (show ¬ es[i].1.toNat = v by omega), if_neg (show ¬ es[i].2.toNat = v by omega)])
    have h1 := hF a
    have h2 := hF b
    rw [hj] at h1
    have h3 : (if a = v then 0 else 1) = (if b = v then 0 else 1) := h1.symm.trans h2
    rcases hv with rfl | rfl
    · rw [if_pos rfl, if_neg (fun e => hab e.symm)] at h3; cases h3
    · rw [if_neg hab, if_pos rfl] at h3; cases h3
end Go.Proofs.Ytmfnlfcpnajngaa
