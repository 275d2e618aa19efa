/- Plain facts on the paths and cuts of a net. -/
import Derived.Test.YtdacfeebidhgnaaMore2
import Derived.Test.YtdacfeebidhgnaaCounts5
import Derived.Test.YtdacfeebidhgnaaEdgesAt
import Derived.Test.YtdacfeebidhgnaaCounts
namespace Go.Proofs.Ytdacfeebidhgnaa
set_option maxRecDepth 100000

/-- A state joins both nodes. -/
def joinS (es : List (Int × Int)) (a b : Nat) (s : Nat) : Bool := decide (rep (endsOf es) (fun i => s.testBit i) es.length a = rep (endsOf es) (fun i => s.testBit i) es.length b)
theorem joinS_iff {es : List (Int × Int)} {a b s : Nat} : joinS es a b s = true ↔ rep (endsOf es) (fun i => s.testBit i) es.length a = rep (endsOf es) (fun i => s.testBit i) es.length b := by
  unfold joinS; rw [decide_eq_true_eq]
theorem joinS_is {n : Int} {es : List (Int × Int)} (hn : netOkB n es = true) {a b s : Nat} (ha : 1 ≤ a ∧ (a : Int) ≤ n) (hb : 1 ≤ b ∧ (b : Int) ≤ n) (hs : s < 2 ^ es.length) : joinedB n es s a b = joinS es a b s := by
  rw [Bool.eq_iff_iff, joined_iff, joinS_iff]
  constructor
  · rintro ⟨_, _, _, h⟩; exact h
  · intro h; exact ⟨state_of hn hs, ⟨by omega, ha.2⟩, ⟨by omega, hb.2⟩, h⟩
theorem joinS_up {n : Int} {es : List (Int × Int)} (hn : netOkB n es = true) (a b : Nat) : UpS es.length (joinS es a b) := fun s t _ _ hst hJ => by
  have hE := endsOf_ok hn
  exact joinS_iff.2 ((rep_ok hE (fun i => s.testBit i) es.length (Nat.le_refl _)).mono (rep_ok hE (fun i => t.testBit i) es.length (Nat.le_refl _)) (Nat.le_refl _) (fun i _ hi => sub_iff.1 hst i hi) (joinS_iff.1 hJ))
theorem joinS_swap (es : List (Int × Int)) (a b s : Nat) : joinS es b a s = joinS es a b s := by
  rw [Bool.eq_iff_iff, joinS_iff, joinS_iff]; exact eq_comm
theorem joinS_zero (es : List (Int × Int)) {a b : Nat} (h : a ≠ b) : joinS es a b 0 = false := by
  cases hj : joinS es a b 0 with
  | false => rfl
  | true =>
    have : ∀ k x, rep (endsOf es) (fun i => (0 : Nat).testBit i) k x = x := by
      intro k
      induction k with
      | zero => intro x; rfl
      | succ k ih =>
        intro x
        have := ih x
        simp only [Nat.zero_testBit] at this
        simpa [rep] using this
    rw [joinS_iff, this, this] at hj
    exact absurd hj h

theorem card_mono {T T' : Nat → Bool} : ∀ m, (∀ i, i < m → T i = true → T' i = true) → card T m ≤ card T' m
  | 0, _ => by simp [card]
  | m + 1, h => by
    have h1 := card_mono m (fun i hi => h i (by omega))
    have h2 := h m (by omega)
    simp only [card]
    by_cases ht : T m = true
    · rw [if_pos ht, if_pos (h2 ht)]; omega
    · rw [if_neg ht]; omega
theorem pop_sub {l s t : Nat} (hl : l ≤ 9) (hs : s < 2 ^ l) (ht : t < 2 ^ l) (h : s &&& t = s) : pop s ≤ pop t := by
  rw [pop_card hs hl, pop_card ht hl]
  exact card_mono l fun i _ hi => sub_iff.1 h i hi

/-- A path has no ring. -/
theorem path_free {n : Int} {es : List (Int × Int)} (hn : netOkB n es = true) {a b p : Nat} (hp : p < 2 ^ es.length) (h : leastB es.length (joinS es a b) p = true) :
    pcs (endsOf es) (fun i => p.testBit i) es.length n.toNat + card (fun i => p.testBit i) es.length = n.toNat := by
  have hE := endsOf_ok hn
  have h9 := (netOkB_iff.1 hn).2.1
  refine free_of hE fun k hk ht => ?_
  have hlt := less_bits h9 hp ht
  have hfun : (fun i => (p - 2 ^ k).testBit i) = fun i => p.testBit i && decide (i ≠ k) := funext hlt.2
  have hno := (least_iff.1 h).2 k hk ht
  have hm := pcs_more (T := fun i => p.testBit i && decide (i ≠ k)) (T' := fun i => p.testBit i) hE hk (fun i _ => by
    by_cases hik : i = k
    · subst hik; simp [ht]
    · simp [hik])
  have hne : ¬ rep (endsOf es) (fun i => p.testBit i && decide (i ≠ k)) es.length (endsOf es k).1 = rep (endsOf es) (fun i => p.testBit i && decide (i ≠ k)) es.length (endsOf es k).2 := fun e => by
    have r1 := rep_ok hE (fun i => p.testBit i) es.length (Nat.le_refl _)
    have r2 := rep_ok hE (fun i => p.testBit i && decide (i ≠ k)) es.length (Nat.le_refl _)
    have hF := r1.least (rep (endsOf es) (fun i => p.testBit i && decide (i ≠ k)) es.length) (fun i hi hti => by
      by_cases hik : i = k
      · rw [hik]; exact e
      · exact r2.joins i hi (by simp [hti, hik]))
    have hab := joinS_iff.1 (least_iff.1 h).1
    have : joinS es a b (p - 2 ^ k) = true := by
      rw [joinS_iff, hfun, ← hF a, ← hF b, hab]
    rw [hno] at this; cases this
  rw [if_neg hne] at hm
  exact hm
theorem path_lt {n : Int} {es : List (Int × Int)} (hn : netOkB n es = true) {a b p : Nat} (hp : p < 2 ^ es.length) (h : leastB es.length (joinS es a b) p = true) : (pop p : Int) < n := by
  have h1 := netOkB_iff.1 hn
  have h2 := path_free hn hp h
  have h3 := pcs_pos (endsOf_ok hn) (T := fun i => p.testBit i) (show 1 ≤ n.toNat by omega)
  rw [pop_card hp h1.2.1]
  omega

/-- The edges at a node. -/
def atS (es : List (Int × Int)) (v : Int) : Nat → Nat
  | 0 => 0
  | k + 1 => atS es v k + if endB v (es.getD k (0, 0)) = true then 2 ^ k else 0
theorem atS_lt (es : List (Int × Int)) (v : Int) : ∀ k, atS es v k < 2 ^ k
  | 0 => by simp [atS]
  | k + 1 => by
    have := atS_lt es v k
    rw [atS, Nat.pow_succ]
    split <;> omega
theorem atS_bit (es : List (Int × Int)) (v : Int) : ∀ k i, (atS es v k).testBit i = (decide (i < k) && endB v (es.getD i (0, 0)))
  | 0, i => by simp [atS]
  | k + 1, i => by
    have hlt := atS_lt es v k
    have ih := atS_bit es v k i
    rw [atS]
    by_cases hb : endB v (es.getD k (0, 0)) = true
    · rw [if_pos hb, Nat.add_comm]
      rcases Nat.lt_trichotomy i k with hi | hi | hi
      · rw [Nat.testBit_two_pow_add_gt hi, ih]; simp [hi, show i < k + 1 by omega]
      · subst hi; rw [Nat.testBit_two_pow_add_eq, ih, hb]; simp
      · have h2 : 2 ^ k + atS es v k < 2 ^ (k + 1) := by rw [Nat.pow_succ]; omega
        rw [Nat.testBit_lt_two_pow (Nat.lt_of_lt_of_le h2 (Nat.pow_le_pow_right (by omega) (show k + 1 ≤ i by omega)))]
        simp [show ¬ i < k + 1 by omega]
    · rw [if_neg hb, Nat.add_zero, ih]
      by_cases hi : i = k
      · subst hi
        have hb' : endB v (es.getD i (0, 0)) = false := by cases h : endB v (es.getD i (0, 0)) with
          | false => rfl
          | true => exact absurd h hb
        rw [hb']; simp
      · by_cases hik : i < k
        · simp [hik, show i < k + 1 by omega]
        · simp [hik, show ¬ i < k + 1 by omega]
theorem atS_pop {es : List (Int × Int)} (h9 : es.length ≤ 9) (v : Int) : pop (atS es v es.length) = es.countP (endB v) := by
  rw [pop_card (atS_lt es v es.length) h9]
  have hc : ∀ k, k ≤ es.length → card (fun i => (atS es v es.length).testBit i) k = (es.take k).countP (endB v) := by
    intro k
    induction k with
    | zero => intro _; simp [card]
    | succ k ih =>
      intro hk
      have hk' : k < es.length := by omega
      have hgd : es.getD k (0, 0) = es[k] := by simp [List.getD, hk']
      rw [card, ih (by omega), countP_take_succ hk', atS_bit, hgd]
      simp [hk']
  rw [hc _ (Nat.le_refl _), List.take_length]
/-- Without the edges at one node it is joined to none. -/
theorem at_cut {n : Int} {es : List (Int × Int)} (hn : netOkB n es = true) {a b : Nat} (hab : a ≠ b) (v : Nat) (hv : v = a ∨ v = b) : dual es.length (joinS es a b) (atS es v es.length) = true := by
  unfold dual
  cases hj : joinS es a b (rest es.length (atS es v es.length)) with
  | false => rfl
  | true =>
    exfalso
    rw [joinS_iff] at hj
    have hE := endsOf_ok hn
    have hev := (netOkB_iff.1 hn).2.2
    have r := rep_ok hE (fun i => (rest es.length (atS es v es.length)).testBit i) es.length (Nat.le_refl _)
    have hF := r.least (fun x => if x = v then 0 else 1) (fun i hi hti => by
      have hti' : (rest es.length (atS es v es.length)).testBit i = true := hti
      rw [rest_bit (atS_lt es v es.length), atS_bit] at hti'
      have hgd : es.getD i (0, 0) = es[i] := by simp [List.getD, hi]
      rw [hgd] at hti'
      have hend : endB v es[i] = false := by simpa [hi] using hti'
      have hfit := hev es[i] (List.getElem_mem hi)
      have he : endsOf es i = (es[i].1.toNat, es[i].2.toNat) := by unfold endsOf; rw [List.getElem?_eq_getElem hi]
      simp only [endB, Bool.or_eq_false_iff, decide_eq_false_iff_not] at hend
      show (if (endsOf es i).1 = v then 0 else 1) = (if (endsOf es i).2 = v then 0 else 1)
      rw [he]
      rw [if_neg (show ¬ es[i].1.toNat = v by omega), if_neg (show ¬ es[i].2.toNat = v by omega)])
    have h1 := hF a
    have h2 := hF b
    rw [hj] at h1
    have h3 : (if a = v then 0 else 1) = (if b = v then 0 else 1) := h1.symm.trans h2
    rcases hv with rfl | rfl
    · rw [if_pos rfl, if_neg (fun e => hab e.symm)] at h3; cases h3
    · rw [if_neg hab, if_pos rfl] at h3; cases h3
end Go.Proofs.Ytdacfeebidhgnaa

/- Plain facts: as many paths apart as the thinnest cut has edges. -/
namespace Go.Proofs.Ytdacfeebidhgnaa
set_option maxRecDepth 100000

/-- The state in which just those that fit are there. -/
def stB (q : Nat → Bool) : Nat → Nat
  | 0 => 0
  | k + 1 => stB q k + if q k = true then 2 ^ k else 0
theorem stB_lt (q : Nat → Bool) : ∀ k, stB q k < 2 ^ k
  | 0 => by simp [stB]
  | k + 1 => by
    have := stB_lt q k
    rw [stB, Nat.pow_succ]
    split <;> omega
theorem stB_bit (q : Nat → Bool) : ∀ k i, (stB q k).testBit i = (decide (i < k) && q i)
  | 0, i => by simp [stB]
  | k + 1, i => by
    have hlt := stB_lt q k
    have ih := stB_bit q k i
    rw [stB]
    cases hb : q k with
    | true =>
      rw [if_pos rfl, Nat.add_comm]
      rcases Nat.lt_trichotomy i k with hi | hi | hi
      · rw [Nat.testBit_two_pow_add_gt hi, ih]; simp [hi, show i < k + 1 by omega]
      · subst hi; rw [Nat.testBit_two_pow_add_eq, ih, hb]; simp
      · have h2 : 2 ^ k + stB q k < 2 ^ (k + 1) := by rw [Nat.pow_succ]; omega
        rw [Nat.testBit_lt_two_pow (Nat.lt_of_lt_of_le h2 (Nat.pow_le_pow_right (by omega) (show k + 1 ≤ i by omega)))]
        simp [show ¬ i < k + 1 by omega]
    | false =>
      rw [if_neg (by simp), Nat.add_zero, ih]
      by_cases hi : i = k
      · subst hi; simp [hb]
      · by_cases hik : i < k
        · simp [hik, show i < k + 1 by omega]
        · simp [hik, show ¬ i < k + 1 by omega]
theorem card_countP (q : Nat → Bool) : ∀ m, card q m = (List.range m).countP q
  | 0 => by simp [card]
  | m + 1 => by
    rw [card, card_countP q m, List.range_succ, List.countP_append]
    simp [List.countP_cons]
theorem stB_pop {q : Nat → Bool} {l : Nat} (hl : l ≤ 9) : pop (stB q l) = (List.range l).countP q := by
  rw [pop_card (stB_lt q l) hl, card_countP]
  refine List.countP_congr fun i hi => ?_
  have : i < l := by simpa using hi
  rw [stB_bit]; simp [this]

/-- How many of a list of sets have nothing in common with each other and with a set, at most. -/
def aparts : List Nat → Nat → Nat
  | [], _ => 0
  | x :: xs, used => max (aparts xs used) (if x &&& used = 0 then 1 + aparts xs (used ||| x) else 0)
theorem card_less1 {T T' : Nat → Bool} : ∀ m, (∀ i, i < m → T i = true → T' i = true) → (∃ j, j < m ∧ T' j = true ∧ T j = false) → card T m + 1 ≤ card T' m
  | 0, _, ⟨j, hj, _⟩ => by omega
  | m + 1, h, ⟨j, hj, h1, h2⟩ => by
    simp only [card]
    by_cases hjm : j = m
    · subst hjm
      have := card_mono (T := T) (T' := T') j (fun i hi => h i (by omega))
      rw [h1, h2]; simp; omega
    · have h3 := card_less1 m (fun i hi => h i (by omega)) ⟨j, by omega, h1, h2⟩
      have h4 := h m (by omega)
      by_cases ht : T m = true
      · rw [if_pos ht, if_pos (h4 ht)]; omega
      · rw [if_neg ht]; omega
/-- Each set that meets c takes one of c. -/
theorem aparts_le {l c : Nat} : ∀ (xs : List Nat) (used : Nat), (∀ x ∈ xs, ∃ i, i < l ∧ x.testBit i = true ∧ c.testBit i = true) → aparts xs used ≤ card (fun i => c.testBit i && !used.testBit i) l
  | [], used, _ => by simp [aparts]
  | x :: xs, used, h => by
    have h1 := aparts_le xs used (fun y hy => h y (by simp [hy]))
    have h2 := aparts_le (l := l) (c := c) xs (used ||| x) (fun y hy => h y (by simp [hy]))
    rw [aparts]
    by_cases hd : x &&& used = 0
    · rw [if_pos hd]
      obtain ⟨i, hi, hx, hc⟩ := h x (by simp)
      have hu := disj_iff.1 hd i hx
      have h3 := card_less1 (T := fun i => c.testBit i && !(used ||| x).testBit i) (T' := fun i => c.testBit i && !used.testBit i) l (fun j _ hj => by
        simp only [Nat.testBit_or, Bool.and_eq_true, Bool.not_eq_true', Bool.or_eq_false_iff] at hj ⊢
        exact ⟨hj.1, hj.2.1⟩) ⟨i, hi, by simp [hc, hu], by simp [Nat.testBit_or, hx]⟩
      omega
    · rw [if_neg hd]; omega
/-- Sets of the list that are apart are at most so many. -/
theorem aparts_ge : ∀ (xs : List Nat) (used : Nat) (Qs : List Nat), (∀ q ∈ Qs, q ∈ xs ∧ q ≠ 0 ∧ q &&& used = 0) → Qs.Pairwise (fun p q => p &&& q = 0) → Qs.length ≤ aparts xs used
  | [], used, Qs, h, _ => by
    cases Qs with
    | nil => simp
    | cons q Qs => have := (h q (by simp)).1; simp at this
  | x :: xs, used, Qs, h, hp => by
    rw [aparts]
    by_cases hx : x ∈ Qs
    · have hnd : Qs.Nodup := by
        refine List.Pairwise.imp_of_mem (fun {p q} hpm _ hpq e => ?_) hp
        subst e
        rw [Nat.and_self] at hpq
        exact (h p hpm).2.1 hpq
      have hperm := List.perm_cons_erase hx
      have hp2 : (x :: Qs.erase x).Pairwise (fun p q => p &&& q = 0) := (hperm.pairwise_iff (fun {a b} hab => by rw [Nat.and_comm]; exact hab)).1 hp
      have hx0 := (h x hx).2.2
      have h3 := aparts_ge xs (used ||| x) (Qs.erase x) (fun q hq => by
        have hqm := List.mem_of_mem_erase hq
        have hne : q ≠ x := fun e => by subst e; exact (hnd.not_mem_erase) hq
        have h1 := h q hqm
        have h2 := (List.pairwise_cons.1 hp2).1 q hq
        refine ⟨by rcases List.mem_cons.1 h1.1 with e | e; exact absurd e hne; exact e, h1.2.1, ?_⟩
        rw [disj_iff]
        intro i hi
        rw [Nat.testBit_or, disj_iff.1 h1.2.2 i hi, Bool.false_or]
        rw [Nat.and_comm] at h2
        exact disj_iff.1 h2 i hi) (List.pairwise_cons.1 hp2).2
      have hlen : Qs.length = (Qs.erase x).length + 1 := by rw [hperm.length_eq]; simp
      rw [if_pos hx0]
      omega
    · have h3 := aparts_ge xs used Qs (fun q hq => by
        have h1 := h q hq
        refine ⟨?_, h1.2⟩
        rcases List.mem_cons.1 h1.1 with e | e
        · subst e; exact absurd hq hx
        · exact e) hp
      omega

theorem apart_le {n : Int} {es : List (Int × Int)} (hn : netOkB n es = true) {a b c : Nat} (hc : c < 2 ^ es.length) (h : dual es.length (joinS es a b) c = true) : aparts (leastL es.length (joinS es a b)) 0 ≤ pop c := by
  have h9 := (netOkB_iff.1 hn).2.1
  have h1 := aparts_le (l := es.length) (c := c) (leastL es.length (joinS es a b)) 0 (fun x hx => by
    obtain ⟨hx1, hx2⟩ := mem_leastL.1 hx
    have hm := least_meets (joinS_up hn a b) hx1 hc (least_iff.1 hx2).1 h
    refine Classical.byContradiction fun hno => hm (disj_iff.2 fun i hi => ?_)
    cases hci : c.testBit i with
    | false => rfl
    | true => exact absurd ⟨i, high_bit hx1 hi, hi, hci⟩ hno)
  rw [pop_card hc h9]
  refine Nat.le_trans h1 (card_mono _ fun i _ hi => ?_)
  simpa using hi
theorem apart_ge {n : Int} {es : List (Int × Int)} (hn : netOkB n es = true) {a b k : Nat} (hab : a ≠ b)
    (hk : ∀ c, c < 2 ^ es.length → leastB es.length (dual es.length (joinS es a b)) c = true → k ≤ pop c) : k ≤ aparts (leastL es.length (joinS es a b)) 0 := by
  have h9 := (netOkB_iff.1 hn).2.1
  have hE := endsOf_ok hn
  have hup := joinS_up hn a b
  have hmen := menger (E := endsOf es) a b es.length (List.range es.length) (fun x => x) k (by simp) List.nodup_range hab (fun X hX => by
    have hlt := stB_lt (splitB (endsOf es) X) es.length
    have hd : dual es.length (joinS es a b) (stB (splitB (endsOf es) X) es.length) = true := by
      unfold dual
      cases hj : joinS es a b (rest es.length (stB (splitB (endsOf es) X) es.length)) with
      | false => rfl
      | true =>
        exfalso
        rw [joinS_iff] at hj
        have r := rep_ok hE (fun i => (rest es.length (stB (splitB (endsOf es) X) es.length)).testBit i) es.length (Nat.le_refl _)
        have hF := r.least (fun x => if X x = true then 1 else 0) (fun i hi hti => by
          have hti' : (rest es.length (stB (splitB (endsOf es) X) es.length)).testBit i = true := hti
          rw [rest_bit hlt, stB_bit] at hti'
          have hsp : splitB (endsOf es) X i = false := by simpa [hi] using hti'
          unfold splitB at hsp
          have he : X (endsOf es i).1 = X (endsOf es i).2 := by simpa using hsp
          show (if X (endsOf es i).1 = true then 1 else 0) = (if X (endsOf es i).2 = true then 1 else 0)
          rw [he])
        have h1 := hF a
        have h2 := hF b
        rw [hj] at h1
        have h3 : (if X a = true then 1 else 0) = (if X b = true then 1 else 0) := h1.symm.trans h2
        rw [hX.here, hX.there] at h3
        simp at h3
    obtain ⟨c, hc, hlc, hcs⟩ := (least_in h9 hup.dual hlt).1 hd
    have h1 := hk c hc hlc
    have h2 := pop_sub h9 hc hlt hcs
    rw [stB_pop h9] at h2
    exact Nat.le_trans h1 h2)
  obtain ⟨Ps, hlen, hPs, hpair⟩ := hmen
  have hex : ∀ P : List Nat, ∃ p : Nat, P ∈ Ps → p < 2 ^ es.length ∧ leastB es.length (joinS es a b) p = true ∧ ∀ i, p.testBit i = true → i ∈ P := fun P => by
    by_cases hP : P ∈ Ps
    · obtain ⟨hj, hr⟩ := hPs P hP
      have hlt := stB_lt (fun i => decide (i ∈ P)) es.length
      have hJ : joinS es a b (stB (fun i => decide (i ∈ P)) es.length) = true := by
        rw [joinS_iff]
        have r := rep_ok hE (fun i => (stB (fun i => decide (i ∈ P)) es.length).testBit i) es.length (Nat.le_refl _)
        refine hj _ (fun x y hxy => congrArg _ (show x = y from hxy)) fun i hi => ?_
        have hil : i < es.length := by simpa using hr i hi
        exact r.joins i hil (by rw [stB_bit]; simp [hil, hi])
      obtain ⟨p, hp, hlp, hps⟩ := (least_in h9 hup hlt).1 hJ
      refine ⟨p, fun _ => ⟨hp, hlp, fun i hi => ?_⟩⟩
      have := sub_iff.1 hps i hi
      rw [stB_bit, Bool.and_eq_true] at this
      simpa using this.2
    · exact ⟨0, fun h => absurd h hP⟩
  obtain ⟨f, hf⟩ : ∃ f : List Nat → Nat, ∀ P, P ∈ Ps → f P < 2 ^ es.length ∧ leastB es.length (joinS es a b) (f P) = true ∧ ∀ i, (f P).testBit i = true → i ∈ P := ⟨fun P => (hex P).choose, fun P => (hex P).choose_spec⟩
  have h1 := aparts_ge (leastL es.length (joinS es a b)) 0 (Ps.map f) (fun q hq => by
    obtain ⟨P, hP, rfl⟩ := List.mem_map.1 hq
    obtain ⟨h1, h2, _⟩ := hf P hP
    refine ⟨mem_leastL.2 ⟨h1, h2⟩, fun e => ?_, by simp⟩
    have h3 := (least_iff.1 h2).1
    rw [e, joinS_zero es hab] at h3; cases h3) (List.pairwise_map.2 (List.Pairwise.imp_of_mem (fun {P Q} hP hQ hPQ => disj_iff.2 fun i hi => by
      cases hb : (f Q).testBit i with
      | false => rfl
      | true => exact absurd ((hf Q hQ).2.2 i hb) (hPQ i ((hf P hP).2.2 i hi))) hpair))
  rw [List.length_map, hlen] at h1
  exact h1
end Go.Proofs.Ytdacfeebidhgnaa

/- Plain facts: the shortest path and the thinnest cut. -/
namespace Go.Proofs.Ytdacfeebidhgnaa
set_option maxRecDepth 100000

/-- The least number of things in the first k sets of a list; -1 without any. -/
def minTo (xs : List Nat) : Nat → Int
  | 0 => -1
  | k + 1 => if minTo xs k < 0 ∨ (pop (xs.getD k 0) : Int) < minTo xs k then (pop (xs.getD k 0) : Nat) else minTo xs k
theorem minTo_low (xs : List Nat) : ∀ k, -1 ≤ minTo xs k
  | 0 => by simp [minTo]
  | k + 1 => by
    have := minTo_low xs k
    rw [minTo]
    split <;> omega
theorem minTo_neg (xs : List Nat) : ∀ k, minTo xs k < 0 ↔ k = 0
  | 0 => by simp [minTo]
  | k + 1 => by
    have := minTo_neg xs k
    have h1 := minTo_low xs k
    rw [minTo]
    split <;> omega
theorem minTo_le (xs : List Nat) : ∀ k i, i < k → minTo xs k ≤ (pop (xs.getD i 0) : Nat)
  | 0, i, h => by omega
  | k + 1, i, h => by
    have h0 := minTo_neg xs k
    rw [minTo]
    by_cases hi : i = k
    · subst hi
      split <;> omega
    · have := minTo_le xs k i (by omega)
      split <;> omega
theorem minTo_in (xs : List Nat) : ∀ k, 0 < k → ∃ i, i < k ∧ minTo xs k = (pop (xs.getD i 0) : Nat)
  | 0, h => by omega
  | k + 1, _ => by
    rw [minTo]
    by_cases hc : minTo xs k < 0 ∨ (pop (xs.getD k 0) : Int) < minTo xs k
    · exact ⟨k, by omega, if_pos hc⟩
    · have h0 := minTo_neg xs k
      obtain ⟨i, hi, he⟩ := minTo_in xs k (by omega)
      exact ⟨i, by omega, by rw [if_neg hc, he]⟩
def minAll (xs : List Nat) : Int := minTo xs xs.length
theorem minAll_le {xs : List Nat} {x : Nat} (h : x ∈ xs) : minAll xs ≤ (pop x : Nat) := by
  obtain ⟨i, hi, rfl⟩ := List.getElem_of_mem h
  have := minTo_le xs xs.length i hi
  have e : xs.getD i 0 = xs[i] := by simp [List.getD, hi]
  rwa [e] at this
theorem minAll_in {xs : List Nat} (h : xs ≠ []) : ∃ x ∈ xs, minAll xs = (pop x : Nat) := by
  obtain ⟨i, hi, he⟩ := minTo_in xs xs.length (List.length_pos_iff.2 h)
  refine ⟨xs[i], List.getElem_mem hi, ?_⟩
  have e : xs.getD i 0 = xs[i] := by simp [List.getD, hi]
  rw [e] at he; exact he
theorem minAll_neg (xs : List Nat) : minAll xs < 0 ↔ xs = [] := by
  unfold minAll; rw [minTo_neg, List.length_eq_zero_iff]

theorem joinC_pos {n : Int} {es : List (Int × Int)} (hn : netOkB n es = true) {a b : Nat} (ha : 1 ≤ a ∧ (a : Int) ≤ n) (hb : 1 ≤ b ∧ (b : Int) ≤ n) (k : Nat) :
    0 < joinC es a b k ↔ ∃ s, s < 2 ^ es.length ∧ joinS es a b s = true ∧ pop s = k := by
  rw [← join_states hn ha hb, List.countP_pos_iff]
  constructor
  · rintro ⟨s, hs, h⟩
    rw [List.mem_range] at hs
    rw [Bool.and_eq_true, joinS_is hn ha hb hs] at h
    exact ⟨s, hs, h.1, by simpa using h.2⟩
  · rintro ⟨s, hs, h1, h2⟩
    refine ⟨s, by simpa using hs, ?_⟩
    rw [Bool.and_eq_true, joinS_is hn ha hb hs]
    exact ⟨h1, by simpa using h2⟩
/-- Without a path no state joins. -/
theorem short_none {n : Int} {es : List (Int × Int)} (hn : netOkB n es = true) {a b : Nat} (ha : 1 ≤ a ∧ (a : Int) ≤ n) (hb : 1 ≤ b ∧ (b : Int) ≤ n)
    (h : leastL es.length (joinS es a b) = []) (k : Nat) : joinC es a b k = 0 := by
  have h9 := (netOkB_iff.1 hn).2.1
  refine Nat.eq_zero_of_not_pos fun hp => ?_
  obtain ⟨s, hs, hj, _⟩ := (joinC_pos hn ha hb k).1 hp
  obtain ⟨p, hp1, hp2, _⟩ := (least_in h9 (joinS_up hn a b) hs).1 hj
  have := mem_leastL.2 ⟨hp1, hp2⟩
  rw [h] at this; simp at this
/-- The shortest path has as many edges as the least state that joins. -/
theorem short_some {n : Int} {es : List (Int × Int)} (hn : netOkB n es = true) {a b : Nat} (ha : 1 ≤ a ∧ (a : Int) ≤ n) (hb : 1 ≤ b ∧ (b : Int) ≤ n)
    (h : leastL es.length (joinS es a b) ≠ []) : ∃ v : Nat, minAll (leastL es.length (joinS es a b)) = v ∧ 0 < joinC es a b v ∧ (∀ i, i < v → joinC es a b i = 0) ∧ (v : Int) < n := by
  have h9 := (netOkB_iff.1 hn).2.1
  obtain ⟨p, hp, he⟩ := minAll_in h
  obtain ⟨hp1, hp2⟩ := mem_leastL.1 hp
  refine ⟨pop p, he, (joinC_pos hn ha hb _).2 ⟨p, hp1, (least_iff.1 hp2).1, rfl⟩, fun i hi => ?_, path_lt hn hp1 hp2⟩
  refine Nat.eq_zero_of_not_pos fun hpos => ?_
  obtain ⟨s, hs, hj, hps⟩ := (joinC_pos hn ha hb i).1 hpos
  obtain ⟨q, hq1, hq2, hqs⟩ := (least_in h9 (joinS_up hn a b) hs).1 hj
  have h1 := minAll_le (mem_leastL.2 ⟨hq1, hq2⟩)
  have h2 := pop_sub h9 hq1 hs hqs
  omega
/-- There is always a cut. -/
theorem cut_some {n : Int} {es : List (Int × Int)} (hn : netOkB n es = true) {a b : Nat} (hab : a ≠ b) : leastL es.length (dual es.length (joinS es a b)) ≠ [] := fun h => by
  have h9 := (netOkB_iff.1 hn).2.1
  obtain ⟨c, hc1, hc2, _⟩ := (least_in h9 (joinS_up hn a b).dual (atS_lt es a es.length)).1 (at_cut hn hab a (.inl rfl))
  have := mem_leastL.2 ⟨hc1, hc2⟩
  rw [h] at this; simp at this
/-- As many paths apart as the thinnest cut has edges; and these are at most those at either node. -/
theorem thin_apart {n : Int} {es : List (Int × Int)} (hn : netOkB n es = true) {a b : Nat} (hab : a ≠ b) :
    minAll (leastL es.length (dual es.length (joinS es a b))) = (aparts (leastL es.length (joinS es a b)) 0 : Nat) ∧
    ∀ v : Nat, v = a ∨ v = b → minAll (leastL es.length (dual es.length (joinS es a b))) ≤ (es.countP (endB v) : Nat) := by
  have h9 := (netOkB_iff.1 hn).2.1
  obtain ⟨c, hc, he⟩ := minAll_in (cut_some hn hab)
  obtain ⟨hc1, hc2⟩ := mem_leastL.1 hc
  have h1 := apart_le hn hc1 (least_iff.1 hc2).1
  have h2 := apart_ge hn (k := pop c) hab (fun d hd1 hd2 => by have := minAll_le (mem_leastL.2 ⟨hd1, hd2⟩); omega)
  refine ⟨by omega, fun v hv => ?_⟩
  obtain ⟨d, hd1, hd2, hds⟩ := (least_in h9 (joinS_up hn a b).dual (atS_lt es v es.length)).1 (at_cut hn hab v hv)
  have h3 := minAll_le (mem_leastL.2 ⟨hd1, hd2⟩)
  have h4 := pop_sub h9 hd1 (atS_lt es v es.length) hds
  rw [atS_pop h9] at h4
  omega
/-- Paths apart have edges of their own. -/
theorem apart_times {l : Nat} (hl : l ≤ 9) {v : Nat} : ∀ (xs : List Nat) (used : Nat), (∀ x ∈ xs, x < 2 ^ l ∧ v ≤ pop x) → aparts xs used * v ≤ card (fun i => !used.testBit i) l
  | [], used, _ => by simp [aparts]
  | x :: xs, used, h => by
    have h1 := apart_times hl (v := v) xs used (fun y hy => h y (by simp [hy]))
    have h2 := apart_times hl (v := v) xs (used ||| x) (fun y hy => h y (by simp [hy]))
    rw [aparts]
    by_cases hd : x &&& used = 0
    · rw [if_pos hd]
      have hx := h x (by simp)
      have hc : card (fun i => !(used ||| x).testBit i) l + pop x ≤ card (fun i => !used.testBit i) l := by
        rw [pop_card hx.1 hl]
        have : ∀ m, card (fun i => !(used ||| x).testBit i) m + card (fun i => x.testBit i) m ≤ card (fun i => !used.testBit i) m := by
          intro m
          induction m with
          | zero => simp [card]
          | succ m ih =>
            simp only [card, Nat.testBit_or]
            simp only [Nat.testBit_or] at ih
            have hdm := disj_iff.1 hd m
            generalize card (fun i => !(used.testBit i || x.testBit i)) m = A at ih ⊢
            generalize card (fun i => x.testBit i) m = B at ih ⊢
            generalize card (fun i => !used.testBit i) m = C at ih ⊢
            by_cases hxm : x.testBit m = true
            · have hu := hdm hxm
              simp [hu, hxm]; omega
            · have hxf : x.testBit m = false := by simpa using hxm
              by_cases hum : used.testBit m = true
              · simp [hxf, hum]; omega
              · have huf : used.testBit m = false := by simpa using hum
                simp [hxf, huf]; omega
        exact this l
      have h3 : (1 + aparts xs (used ||| x)) * v = v + aparts xs (used ||| x) * v := by rw [Nat.add_mul, Nat.one_mul]
      rcases Nat.le_total (aparts xs used) (1 + aparts xs (used ||| x)) with hm | hm
      · rw [Nat.max_eq_right hm, h3]; omega
      · rw [Nat.max_eq_left hm]; exact h1
    · rw [if_neg hd, Nat.max_eq_left (by omega)]; exact h1
end Go.Proofs.Ytdacfeebidhgnaa

/- Plain facts: states of the other edges, with a place put in. -/
namespace Go.Proofs.Ytdacfeebidhgnaa
set_option maxRecDepth 100000

def putR : Nat → Nat → Nat
  | 0, s => 2 * s
  | a + 1, s => 2 * putR a (s / 2) + s % 2
theorem putR_is : ∀ a s, putR a s = (s - s % 2 ^ a) * 2 + s % 2 ^ a
  | 0, s => by simp [putR, Nat.mod_one]; omega
  | a + 1, s => by
    rw [putR, putR_is a (s / 2)]
    have h1 : s % 2 ^ (a + 1) = 2 * (s / 2 % 2 ^ a) + s % 2 := by
      rw [Nat.pow_succ, Nat.mul_comm (2 ^ a) 2, Nat.mod_mul]; omega
    have h2 := Nat.mod_le (s / 2) (2 ^ a)
    rw [h1]
    generalize s / 2 % 2 ^ a = x at *
    omega
theorem putR_lt : ∀ a l s, a ≤ l → s < 2 ^ l → putR a s < 2 ^ (l + 1)
  | 0, l, s, _, hs => by rw [putR, Nat.pow_succ]; omega
  | a + 1, l, s, ha, hs => by
    obtain ⟨l, rfl⟩ : ∃ l', l = l' + 1 := ⟨l - 1, by omega⟩
    rw [Nat.pow_succ] at hs
    have := putR_lt a l (s / 2) (by omega) (by omega)
    rw [putR, Nat.pow_succ]
    omega
theorem testBit_two (x b i : Nat) (hb : b < 2) : (2 * x + b).testBit i = if i = 0 then decide (b = 1) else x.testBit (i - 1) := by
  cases i with
  | zero => rw [if_pos rfl, Nat.testBit_zero, show (2 * x + b) % 2 = b by omega]
  | succ i => rw [if_neg (by omega), Nat.testBit_succ, show (2 * x + b) / 2 = x by omega, Nat.add_sub_cancel]
theorem putR_bit : ∀ a s i, (putR a s).testBit i = if i < a then s.testBit i else if i = a then false else s.testBit (i - 1)
  | 0, s, i => by
    have := testBit_two s 0 i (by omega)
    rw [Nat.add_zero] at this
    rw [putR, this]
    by_cases h : i = 0
    · simp [h]
    · simp [h]
  | a + 1, s, i => by
    rw [putR, testBit_two _ _ _ (Nat.mod_lt _ (by omega))]
    cases i with
    | zero => rw [if_pos rfl, if_pos (by omega), Nat.testBit_zero]
    | succ i =>
      rw [if_neg (by omega), Nat.add_sub_cancel, putR_bit a (s / 2) i]
      by_cases h1 : i < a
      · rw [if_pos h1, if_pos (by omega), Nat.testBit_succ]
      · have a1 : ¬ i + 1 < a + 1 := by omega
        simp only [h1, a1, if_false]
        by_cases h2 : i = a
        · simp [h2]
        · have a2 : ¬ i + 1 = a + 1 := by omega
          simp only [h2, a2, if_false]
          obtain ⟨i, rfl⟩ : ∃ j, i = j + 1 := ⟨i - 1, by omega⟩
          show (s / 2).testBit i = s.testBit (i + 1)
          rw [Nat.testBit_succ]
theorem putR_more (a s : Nat) : ∀ i, (putR a s + 2 ^ a).testBit i = if i < a then s.testBit i else if i = a then true else s.testBit (i - 1) := by
  induction a generalizing s with
  | zero =>
    intro i
    rw [putR, Nat.pow_zero, testBit_two _ _ _ (by omega)]
    by_cases h : i = 0
    · simp [h]
    · simp [h]
  | succ a ih =>
    intro i
    have e : putR (a + 1) s + 2 ^ (a + 1) = 2 * (putR a (s / 2) + 2 ^ a) + s % 2 := by rw [putR, Nat.pow_succ]; omega
    rw [e, testBit_two _ _ _ (Nat.mod_lt _ (by omega))]
    cases i with
    | zero => rw [if_pos rfl, if_pos (by omega), Nat.testBit_zero]
    | succ i =>
      rw [if_neg (by omega), Nat.add_sub_cancel, ih (s / 2) i]
      by_cases h1 : i < a
      · rw [if_pos h1, if_pos (by omega), Nat.testBit_succ]
      · have a1 : ¬ i + 1 < a + 1 := by omega
        simp only [h1, a1, if_false]
        by_cases h2 : i = a
        · simp [h2]
        · have a2 : ¬ i + 1 = a + 1 := by omega
          simp only [h2, a2, if_false]
          obtain ⟨i, rfl⟩ : ∃ j, i = j + 1 := ⟨i - 1, by omega⟩
          show (s / 2).testBit i = s.testBit (i + 1)
          rw [Nat.testBit_succ]
theorem putR_more_lt {a l s : Nat} (ha : a ≤ l) (hs : s < 2 ^ l) : putR a s + 2 ^ a < 2 ^ (l + 1) := by
  refine Nat.lt_of_not_le fun h => ?_
  obtain ⟨i, hi, hb⟩ := Nat.exists_ge_and_testBit_of_ge_two_pow h
  rw [putR_more, if_neg (by omega), if_neg (by omega), Nat.testBit_lt_two_pow (Nat.lt_of_lt_of_le hs (Nat.pow_le_pow_right (by omega) (show l ≤ i - 1 by omega)))] at hb
  cases hb
theorem pop_two {x b : Nat} (hb : b < 2) (h : x < 9223372036854775808) : pop (2 * x + b) = b + pop x := by
  rw [pop_step _ (by omega), show (2 * x + b) % 2 = b by omega, show (2 * x + b) / 2 = x by omega]
theorem pop_put : ∀ a s, a ≤ 9 → s < 512 → pop (putR a s) = pop s ∧ pop (putR a s + 2 ^ a) = pop s + 1
  | 0, s, _, hs => by
    have h1 := pop_two (x := s) (b := 0) (by omega) (by omega)
    have h2 := pop_two (x := s) (b := 1) (by omega) (by omega)
    rw [Nat.add_zero] at h1
    exact ⟨by rw [putR, h1, Nat.zero_add], by rw [putR, Nat.pow_zero, h2, Nat.add_comm]⟩
  | a + 1, s, ha, hs => by
    obtain ⟨h1, h2⟩ := pop_put a (s / 2) (by omega) (by omega)
    have hl := putR_lt a 9 (s / 2) (by omega) (by omega)
    have hl2 := putR_more_lt (a := a) (l := 9) (s := s / 2) (by omega) (by omega)
    have h0 := pop_step s (by omega)
    have e : putR (a + 1) s + 2 ^ (a + 1) = 2 * (putR a (s / 2) + 2 ^ a) + s % 2 := by rw [putR, Nat.pow_succ]; omega
    refine ⟨?_, ?_⟩
    · rw [putR, pop_two (Nat.mod_lt _ (by omega)) (by omega), h1, h0]
    · rw [e, pop_two (Nat.mod_lt _ (by omega)) (by omega), h2, h0]; omega

theorem countP_two (Q : Nat → Bool) : ∀ n, (List.range (2 * n)).countP Q = (List.range n).countP (fun s => Q (2 * s)) + (List.range n).countP (fun s => Q (2 * s + 1))
  | 0 => rfl
  | n + 1 => by
    rw [show 2 * (n + 1) = 2 * n + 1 + 1 by omega, List.range_succ, List.range_succ, List.range_succ]
    simp only [List.countP_append, List.countP_cons, List.countP_nil]
    rw [countP_two Q n]
    omega
/-- All states are those without the edge, and those with it. -/
theorem countP_put : ∀ (a l : Nat) (Q : Nat → Bool), a ≤ l → (List.range (2 ^ (l + 1))).countP Q = (List.range (2 ^ l)).countP (fun s => Q (putR a s)) + (List.range (2 ^ l)).countP (fun s => Q (putR a s + 2 ^ a))
  | 0, l, Q, _ => by
    rw [Nat.pow_succ, Nat.mul_comm, countP_two]
    simp only [putR, Nat.pow_zero]
  | a + 1, l, Q, ha => by
    obtain ⟨l, rfl⟩ : ∃ l', l = l' + 1 := ⟨l - 1, by omega⟩
    have hp : 2 ^ (l + 1 + 1) = 2 * 2 ^ (l + 1) := by rw [Nat.pow_succ, Nat.mul_comm]
    have hp2 : 2 ^ (l + 1) = 2 * 2 ^ l := by rw [Nat.pow_succ, Nat.mul_comm]
    rw [hp, countP_two, countP_put a l _ (by omega), countP_put a l _ (by omega), hp2, countP_two, countP_two]
    have e0 : ∀ s, putR (a + 1) (2 * s) = 2 * putR a s := fun s => by rw [putR, show 2 * s / 2 = s by omega, show 2 * s % 2 = 0 by omega, Nat.add_zero]
    have e1 : ∀ s, putR (a + 1) (2 * s + 1) = 2 * putR a s + 1 := fun s => by rw [putR, show (2 * s + 1) / 2 = s by omega, show (2 * s + 1) % 2 = 1 by omega]
    have e2 : ∀ s, 2 * putR a s + 2 ^ (a + 1) = 2 * (putR a s + 2 ^ a) := fun s => by rw [Nat.pow_succ]; omega
    have e3 : ∀ s, 2 * putR a s + 1 + 2 ^ (a + 1) = 2 * (putR a s + 2 ^ a) + 1 := fun s => by rw [Nat.pow_succ]; omega
    simp only [e0, e1, e2, e3]
    omega
end Go.Proofs.Ytdacfeebidhgnaa
