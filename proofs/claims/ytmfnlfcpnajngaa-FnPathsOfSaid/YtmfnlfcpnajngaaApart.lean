/- Plain facts: as many paths apart as the thinnest cut has edges. -/
import Derived.Test.YtmfnlfcpnajngaaPaths
import Derived.Test.YtmfnlfcpnajngaaMenger
namespace Go.Proofs.Ytmfnlfcpnajngaa
set_option maxRecDepth 100000

/-- The state in which just those that fit are there. -/
def stB (q : Nat → Bool) : Nat → Nat
  | 0 => 0
  | k + 1 => stB q k + if q k = true then 2 ^ k else 0
theorem stB_lt (q : Nat → Bool) : ∀ k, stB q k < 2 ^ k
  | 0 => by simp [stB]
  | k + 1 => by
    have := stB_lt q k
    rw [stB, Nat.pow_succ]
    split <;> omega
theorem stB_bit (q : Nat → Bool) : ∀ k i, (stB q k).testBit i = (decide (i < k) && q i)
  | 0, i => by simp [stB]
  | k + 1, i => by
    have hlt := stB_lt q k
    have ih := stB_bit q k i
    rw [stB]
    cases hb : q k with
    | true =>
      rw [if_pos rfl, Nat.add_comm]
      rcases Nat.lt_trichotomy i k with hi | hi | hi
      · rw [Nat.testBit_two_pow_add_gt hi, ih]; simp [hi, show i < k + 1 by omega]
      · subst hi; rw [Nat.testBit_two_pow_add_eq, ih, hb]; simp
      · have h2 : 2 ^ k + stB q k < 2 ^ (k + 1) := by rw [Nat.pow_succ]; omega
        rw [Nat.testBit_lt_two_pow (Nat.lt_of_lt_of_le h2 (Nat.pow_le_pow_right (by omega) (show k + 1 ≤ i by omega)))]
        simp [show ¬ i < k + 1 by omega]
    | false =>
      rw [if_neg (by simp), Nat.add_zero, ih]
      by_cases hi : i = k
      · subst hi; simp [hb]
      · by_cases hik : i < k
        · simp [hik, show i < k + 1 by omega]
        · simp [hik, show ¬ i < k + 1 by omega]
theorem card_countP (q : Nat → Bool) : ∀ m, card q m = (List.range m).countP q
  | 0 => by simp [card]
  | m + 1 => by
    rw [card, card_countP q m, List.range_succ, List.countP_append]
    simp [List.countP_cons]
theorem stB_pop {q : Nat → Bool} {l : Nat} (hl : l ≤ 9) : pop (stB q l) = (List.range l).countP q := by
  rw [pop_card (stB_lt q l) hl, card_countP]
  refine List.countP_congr fun i hi => ?_
  have : i < l := by simpa using hi
  rw [stB_bit]; simp [this]

/-- How many of a list of sets have nothing in common with each other and with a set, at most. -/
def aparts : List Nat → Nat → Nat
  | [], _ => 0
  | x :: xs, used => max (aparts xs used) (if x &&& used = 0 then 1 + aparts xs (used ||| x) else 0)
theorem card_less1 {T T' : Nat → Bool} : ∀ m, (∀ i, i < m → T i = true → T' i = true) → (∃ j, j < m ∧ T' j = true ∧ T j = false) → card T m + 1 ≤ card T' m
  | 0, _, ⟨j, hj, _⟩ => by omega
  | m + 1, h, ⟨j, hj, h1, h2⟩ => by
    simp only [card]
    by_cases hjm : j = m
    · subst hjm
      have := card_mono (T := T) (T' := T') j (fun i hi => h i (by omega))
      rw [h1, h2]; simp; omega
    · have h3 := card_less1 m (fun i hi => h i (by omega)) ⟨j, by omega, h1, h2⟩
      have h4 := h m (by omega)
      by_cases ht : T m = true
      · rw [if_pos ht, if_pos (h4 ht)]; omega
      · rw [if_neg ht]; omega
/-- Each set that meets c takes one of c. -/
theorem aparts_le {l c : Nat} : ∀ (xs : List Nat) (used : Nat), (∀ x ∈ xs, ∃ i, i < l ∧ x.testBit i = true ∧ c.testBit i = true) → aparts xs used ≤ card (fun i => c.testBit i && !used.testBit i) l
  | [], used, _ => by simp [aparts]
  | x :: xs, used, h => by
    have h1 := aparts_le xs used (fun y hy => h y (by simp [hy]))
    have h2 := aparts_le (l := l) (c := c) xs (used ||| x) (fun y hy => h y (by simp [hy]))
    rw [aparts]
    by_cases hd : x &&& used = 0
    · rw [if_pos hd]
      obtain ⟨i, hi, hx, hc⟩ := h x (by simp)
      have hu := disj_iff.1 hd i hx
      have h3 := card_less1 (T := fun i => c.testBit i && !(used ||| x).testBit i) (T' := fun i => c.testBit i && !used.testBit i) l (fun j _ hj => by
        simp only [Nat.testBit_or, Bool.and_eq_true, Bool.not_eq_true', Bool.or_eq_false_iff] at hj ⊢
        exact ⟨hj.1, hj.2.1⟩) ⟨i, hi, by simp [hc, hu], by simp [Nat.testBit_or, hx]⟩
      omega
    · rw [if_neg hd]; omega
/-- Sets of the list that are apart are at most so many. -/
theorem aparts_ge : ∀ (xs : List Nat) (used : Nat) (Qs : List Nat), (∀ q ∈ Qs, q ∈ xs ∧ q ≠ 0 ∧ q &&& used = 0) → Qs.Pairwise (fun p q => p &&& q = 0) → Qs.length ≤ aparts xs used
  | [], used, Qs, h, _ => by
    cases Qs with
    | nil => simp
    | cons q Qs => have := (h q (by simp)).1; simp at this
  | x :: xs, used, Qs, h, hp => by
    rw [aparts]
    by_cases hx : x ∈ Qs
    · have hnd : Qs.Nodup := by
        refine List.Pairwise.imp_of_mem (fun {p q} hpm _ hpq e => ?_) hp
        subst e
        rw [Nat.and_self] at hpq
        exact (h p hpm).2.1 hpq
      have hperm := List.perm_cons_erase hx
      have hp2 : (x :: Qs.erase x).Pairwise (fun p q => p &&& q = 0) := (hperm.pairwise_iff (fun {a b} hab => by rw [Nat.and_comm]; exact hab)).1 hp
      have hx0 := (h x hx).2.2
      have h3 := aparts_ge xs (used ||| x) (Qs.erase x) (fun q hq => by
        have hqm := List.mem_of_mem_erase hq
        have hne : q ≠ x := fun e => by subst e; exact (hnd.not_mem_erase) hq
        have h1 := h q hqm
        have h2 := (List.pairwise_cons.1 hp2).1 q hq
        refine ⟨by rcases List.mem_cons.1 h1.1 with e | e; exact absurd e hne; exact e, h1.2.1, ?_⟩
        rw [disj_iff]
        intro i hi
        rw [Nat.testBit_or, disj_iff.1 h1.2.2 i hi, Bool.false_or]
        rw [Nat.and_comm] at h2
        exact disj_iff.1 h2 i hi) (List.pairwise_cons.1 hp2).2
      have hlen : Qs.length = (Qs.erase x).length + 1 := by rw [hperm.length_eq]; simp
      rw [if_pos hx0]
      omega
    · have h3 := aparts_ge xs used Qs (fun q hq => by
        have h1 := h q hq
        refine ⟨?_, h1.2⟩
        rcases List.mem_cons.1 h1.1 with e | e
        · subst e; exact absurd hq hx
        · exact e) hp
      omega

theorem apart_le {n : Int} {es : List (Int × Int)} (hn : netOkB n es = true) {a b c : Nat} (hc : c < 2 ^ es.length) (h : dual es.length (joinS es a b) c = true) : aparts (leastL es.length (joinS es a b)) 0 ≤ pop c := by
  have h9 := (netOkB_iff.1 hn).2.1
  have h1 := aparts_le (l := es.length) (c := c) (leastL es.length (joinS es a b)) 0 (fun x hx => by
    obtain ⟨hx1, hx2⟩ := mem_leastL.1 hx
    have hm := least_meets (joinS_up hn a b) hx1 hc (least_iff.1 hx2).1 h
    refine Classical.byContradiction fun hno => hm (disj_iff.2 fun i hi => ?_)
    cases hci : c.testBit i with
    | false => rfl
    | true => exact absurd ⟨i, high_bit hx1 hi, hi, hci⟩ hno)
  rw [pop_card hc h9]
  refine Nat.le_trans h1 (card_mono _ fun i _ hi => ?_)
  simpa using hi
theorem apart_ge {n : Int} {es : List (Int × Int)} (hn : netOkB n es = true) {a b k : Nat} (hab : a ≠ b)
    (hk : ∀ c, c < 2 ^ es.length → leastB es.length (dual es.length (joinS es a b)) c = true → k ≤ pop c) : k ≤ aparts (leastL es.length (joinS es a b)) 0 := by
  have h9 := (netOkB_iff.1 hn).2.1
  have hE := endsOf_ok hn
  have hup := joinS_up hn a b
  have hmen := menger (E := endsOf es) a b es.length (List.range es.length) (fun x => x) k (by simp) List.nodup_range hab (fun X hX => by
    have hlt := stB_lt (splitB (endsOf es) X) es.length
    have hd : dual es.length (joinS es a b) (stB (splitB (endsOf es) X) es.length) = true := by
      unfold dual
      cases hj : joinS es a b (rest es.length (stB (splitB (endsOf es) X) es.length)) with
      | false => rfl
      | true =>
        exfalso
        rw [joinS_iff] at hj
        have r := rep_ok hE (fun i => (rest es.length (stB (splitB (endsOf es) X) es.length)).testBit i) es.length (Nat.le_refl _)
        have hF := r.least (fun x => if X x = true then 1 else 0) (fun i hi hti => by
          have hti' : (rest es.length (stB (splitB (endsOf es) X) es.length)).testBit i = true := hti
          rw [rest_bit hlt, stB_bit] at hti'
          have hsp : splitB (endsOf es) X i = false := by simpa [hi] using hti'
          unfold splitB at hsp
          have he : X (endsOf es i).1 = X (endsOf es i).2 := by simpa using hsp
          show (if X (endsOf es i).1 = true then 1 else 0) = (if X (endsOf es i).2 = true then 1 else 0)
          rw [he])
        have h1 := hF a
        have h2 := hF b
        rw [hj] at h1
        have h3 : (if X a = true then 1 else 0) = (if X b = true then 1 else 0) := h1.symm.trans h2
        rw [hX.here, hX.there] at h3
        simp at h3
    obtain ⟨c, hc, hlc, hcs⟩ := (least_in h9 hup.dual hlt).1 hd
    have h1 := hk c hc hlc
    have h2 := pop_sub h9 hc hlt hcs
    rw [stB_pop h9] at h2
    exact Nat.le_trans h1 h2)
  obtain ⟨Ps, hlen, hPs, hpair⟩ := hmen
  have hex : ∀ P : List Nat, ∃ p : Nat, P ∈ Ps → p < 2 ^ es.length ∧ leastB es.length (joinS es a b) p = true ∧ ∀ i, p.testBit i = true → i ∈ P := fun P => by
    by_cases hP : P ∈ Ps
    · obtain ⟨hj, hr⟩ := hPs P hP
      have hlt := stB_lt (fun i => decide (i ∈ P)) es.length
      have hJ : joinS es a b (stB (fun i => decide (i ∈ P)) es.length) = true := by
        rw [joinS_iff]
        have r := rep_ok hE (fun i => (stB (fun i => decide (i ∈ P)) es.length).testBit i) es.length (Nat.le_refl _)
        refine hj _ (fun x y hxy => congrArg _ (show x = y from hxy)) fun i hi => ?_
        have hil : i < es.length := by simpa using hr i hi
        exact r.joins i hil (by rw [stB_bit]; simp [hil, hi])
      obtain ⟨p, hp, hlp, hps⟩ := (least_in h9 hup hlt).1 hJ
      refine ⟨p, fun _ => ⟨hp, hlp, fun i hi => ?_⟩⟩
      have := sub_iff.1 hps i hi
      rw [stB_bit, Bool.and_eq_true] at this
      simpa using this.2
    · exact ⟨0, fun h => absurd h hP⟩
  obtain ⟨f, hf⟩ : ∃ f : List Nat → Nat, ∀ P, P ∈ Ps → f P < 2 ^ es.length ∧ leastB es.length (joinS es a b) (f P) = true ∧ ∀ i, (f P).testBit i = true → i ∈ P := ⟨fun P => (hex P).choose, fun P => (hex P).choose_spec⟩
  have h1 := aparts_ge (leastL es.length (joinS es a b)) 0 (Ps.map f) (fun q hq => by
    obtain ⟨P, hP, rfl⟩ := List.mem_map.1 hq
    obtain ⟨h1, h2, _⟩ := hf P hP
    refine ⟨mem_leastL.2 ⟨h1, h2⟩, fun e => ?_, by simp⟩
    have h3 := (least_iff.1 h2).1
    rw [e, joinS_zero es hab] at h3; cases h3) (List.pairwise_map.2 (List.Pairwise.imp_of_mem (fun {P Q} hP hQ hPQ => disj_iff.2 fun i hi => by
      cases hb : (f Q).testBit i with
      | false => rfl
      | true => exact absurd ((hf Q hQ).2.2 i hb) (hPQ i ((hf P hP).2.2 i hi))) hpair))
  rw [List.length_map, hlen] at h1
  exact h1
end Go.Proofs.Ytmfnlfcpnajngaa
