/- As many paths apart as the thinnest cut has edges: plain facts (edges by numbers in a list, R tells what is joined already). -/
import Derived.Test.YtmfnlfcpnajngaaCounts
namespace Go.Proofs.Ytmfnlfcpnajngaa
set_option maxRecDepth 100000

section
variable (E : Nat → Nat × Nat)
/-- The edges of P, over R, join a and b. -/
def Joins (R : Nat → Nat) (P : List Nat) (a b : Nat) : Prop := ∀ F : Nat → Nat, Sub R F → (∀ i ∈ P, F (E i).1 = F (E i).2) → F a = F b
def splitB (X : Nat → Bool) (i : Nat) : Bool := X (E i).1 != X (E i).2
/-- A side with a and without b. -/
structure Side (R : Nat → Nat) (X : Nat → Bool) (a b : Nat) : Prop where
  resp : ∀ x y, R x = R y → X x = X y
  here : X a = true
  there : X b = false
def Apart (L : List Nat) (R : Nat → Nat) (a b k : Nat) : Prop :=
  ∃ Ps : List (List Nat), Ps.length = k ∧ (∀ P ∈ Ps, Joins E R P a b ∧ ∀ i ∈ P, i ∈ L) ∧ Ps.Pairwise (fun P Q => ∀ i ∈ P, i ∉ Q)
end
section
variable {E : Nat → Nat × Nat}
theorem Apart.more {L L' : List Nat} {R : Nat → Nat} {a b k : Nat} (h : Apart E L R a b k) (hs : ∀ i ∈ L, i ∈ L') : Apart E L' R a b k := by
  obtain ⟨Ps, h1, h2, h3⟩ := h
  exact ⟨Ps, h1, fun P hP => ⟨(h2 P hP).1, fun i hi => hs i ((h2 P hP).2 i hi)⟩, h3⟩
theorem Apart.add {L L' : List Nat} {R : Nat → Nat} {a b k : Nat} (h : Apart E L R a b k) {P : List Nat} (hs : ∀ i ∈ L, i ∈ L') (hj : Joins E R P a b) (hP : ∀ i ∈ P, i ∈ L' ∧ i ∉ L) : Apart E L' R a b (k + 1) := by
  obtain ⟨Ps, h1, h2, h3⟩ := h
  refine ⟨P :: Ps, by simp [h1], ?_, ?_⟩
  · intro Q hQ
    rcases List.mem_cons.1 hQ with rfl | hQ
    · exact ⟨hj, fun i hi => (hP i hi).1⟩
    · exact ⟨(h2 Q hQ).1, fun i hi => hs i ((h2 Q hQ).2 i hi)⟩
  · refine List.pairwise_cons.2 ⟨fun Q hQ i hi hi' => (hP i hi).2 ((h2 Q hQ).2 i hi'), h3⟩
theorem countP_erase_split {L : List Nat} {e : Nat} (he : e ∈ L) (p : Nat → Bool) : L.countP p = (L.erase e).countP p + if p e = true then 1 else 0 := by
  have h := List.perm_cons_erase he
  rw [h.countP_eq, List.countP_cons]
theorem countP_eq_of_le {L : List Nat} {p q : Nat → Bool} (hpq : ∀ i ∈ L, p i = true → q i = true) (hle : L.countP q ≤ L.countP p) : ∀ i ∈ L, q i = true → p i = true := by
  induction L with
  | nil => intro i hi; cases hi
  | cons a L ih =>
    have hm : L.countP p ≤ L.countP q := List.countP_mono_left fun i hi => hpq i (by simp [hi])
    simp only [List.countP_cons] at hle
    have ha := hpq a (by simp)
    intro i hi hq
    rcases List.mem_cons.1 hi with rfl | hi
    · cases hp : p i with
      | true => rfl
      | false => rw [hp, hq] at hle; simp at hle; omega
    · refine ih (fun j hj => hpq j (by simp [hj])) ?_ i hi hq
      cases hp : p a with
      | true => rw [hp, ha hp] at hle; simpa using hle
      | false =>
        rw [hp] at hle
        cases hqa : q a <;> rw [hqa] at hle <;> simp at hle <;> omega
theorem Joins.hits {R : Nat → Nat} {P : List Nat} {a b : Nat} (h : Joins E R P a b) {X : Nat → Bool} (hX : Side R X a b) : ∃ i ∈ P, splitB E X i = true := by
  by_cases hno : ∃ i ∈ P, splitB E X i = true
  · exact hno
  · have hF := h (fun v => if X v = true then 1 else 0) (fun x y hxy => by simp only [hX.resp x y hxy]) (fun i hi => by
      have : splitB E X i = false := by
        cases hs : splitB E X i with
        | false => rfl
        | true => exact absurd ⟨i, hi, hs⟩ hno
      have : X (E i).1 = X (E i).2 := by simpa [splitB] using this
      simp only [this])
    simp [hX.here, hX.there] at hF
theorem apart_eq {Ps : List (List Nat)} (h : Ps.Pairwise (fun P Q => ∀ i ∈ P, i ∉ Q)) : ∀ P ∈ Ps, ∀ Q ∈ Ps, ∀ i, i ∈ P → i ∈ Q → P = Q := by
  induction Ps with
  | nil => intro P hP; cases hP
  | cons A Ps ih =>
    have h' := List.pairwise_cons.1 h
    intro P hP Q hQ i hi hi'
    rcases List.mem_cons.1 hP with e1 | hP1 <;> rcases List.mem_cons.1 hQ with e2 | hQ1
    · rw [e1, e2]
    · exact absurd hi' (h'.1 Q hQ1 i (e1 ▸ hi))
    · exact absurd hi (h'.1 P hP1 i (e2 ▸ hi'))
    · exact ih h'.2 P hP1 Q hQ1 i hi hi'
/-- k paths apart over a cut of k edges: each edge of the cut is on just one. -/
theorem apart_cut {Ps : List (List Nat)} {C : List Nat} (hl : Ps.length = C.length) (hd : Ps.Pairwise (fun P Q => ∀ i ∈ P, i ∉ Q)) (hh : ∀ P ∈ Ps, ∃ i ∈ P, i ∈ C) :
    (∀ c ∈ C, ∃ P ∈ Ps, c ∈ P) ∧ ∀ P ∈ Ps, ∀ c ∈ C, ∀ c' ∈ C, c ∈ P → c' ∈ P → c = c' := by
  have hpick : ∃ h : List Nat → Nat, ∀ P ∈ Ps, h P ∈ P ∧ h P ∈ C := by
    refine ⟨fun P => if hP : ∃ i ∈ P, i ∈ C then Classical.choose hP else 0, fun P hP => ?_⟩
    have := hh P hP
    simp only [dif_pos this]
    exact Classical.choose_spec this
  obtain ⟨h, hs⟩ := hpick
  have hnd : (Ps.map h).Nodup := by
    rw [List.Nodup, List.pairwise_map]
    refine List.Pairwise.imp_of_mem ?_ hd
    intro P Q hP hQ hPQ e
    exact hPQ (h P) (hs P hP).1 (e ▸ (hs Q hQ).1)
  have hall : ∀ c ∈ C, c ∈ Ps.map h := by
    intro c hc
    by_cases hm : c ∈ Ps.map h
    · exact hm
    · have hlen := inj_length (F := fun x => x) (Ps.map h) (C.erase c) hnd (fun x hx => by
        obtain ⟨P, hP, rfl⟩ := List.mem_map.1 hx
        exact (List.mem_erase_of_ne (fun e => hm (by rw [← e]; exact hx))).2 (hs P hP).2) (fun x _ y _ e => e)
      rw [List.length_map, List.length_erase_of_mem hc, hl] at hlen
      have := List.length_pos_of_mem hc
      omega
  have hown : ∀ c ∈ C, ∀ P ∈ Ps, c ∈ P → h P = c := by
    intro c hc P hP hcP
    obtain ⟨Q, hQ, hQc⟩ := List.mem_map.1 (hall c hc)
    have : P = Q := apart_eq hd P hP Q hQ c hcP (hQc ▸ (hs Q hQ).1)
    rw [this]; exact hQc
  refine ⟨fun c hc => ?_, fun P hP c hc c' hc' h1 h2 => (hown c hc P hP h1).symm.trans (hown c' hc' P hP h2)⟩
  obtain ⟨Q, hQ, hQc⟩ := List.mem_map.1 (hall c hc)
  exact ⟨Q, hQ, hQc ▸ (hs Q hQ).1⟩
def overIn (R : Nat → Nat) (X : Nat → Bool) (v : Nat) : Nat := if X v = true then R v + 1 else 0
def overOut (R : Nat → Nat) (X : Nat → Bool) (v : Nat) : Nat := if X v = true then 0 else R v + 1
theorem split_iff (X : Nat → Bool) (i : Nat) : splitB E X i = true ↔ X (E i).1 ≠ X (E i).2 := by simp [splitB]
/-- Paths on both sides of a cut, put together. -/
theorem apart_glue {L : List Nat} (hL : L.Nodup) {R : Nat → Nat} {a b k : Nat} {X : Nat → Bool} (hX : Side R X a b) (hk : L.countP (splitB E X) = k)
    (h1 : Apart E (L.filter fun i => X (E i).1 || X (E i).2) (overIn R X) a b k) (h2 : Apart E (L.filter fun i => !(X (E i).1 && X (E i).2)) (overOut R X) a b k) : Apart E L R a b k := by
  obtain ⟨P1, l1, g1, d1⟩ := h1
  obtain ⟨P2, l2, g2, d2⟩ := h2
  have hCl : (L.filter (splitB E X)).length = k := by rw [← List.countP_eq_length_filter, hk]
  have hCn : (L.filter (splitB E X)).Nodup := hL.filter _
  have s1 : Side (overIn R X) X a b := ⟨fun x y h => by
    unfold overIn at h
    cases hx : X x <;> cases hy : X y <;> simp [hx, hy] at h ⊢, hX.here, hX.there⟩
  have s2 : Side (overOut R X) X a b := ⟨fun x y h => by
    unfold overOut at h
    cases hx : X x <;> cases hy : X y <;> simp [hx, hy] at h ⊢, hX.here, hX.there⟩
  have m1 : ∀ P ∈ P1, ∃ i ∈ P, i ∈ L.filter (splitB E X) := fun P hP => by
    obtain ⟨i, hi, hs⟩ := (g1 P hP).1.hits s1
    exact ⟨i, hi, List.mem_filter.2 ⟨(List.mem_filter.1 ((g1 P hP).2 i hi)).1, hs⟩⟩
  have m2 : ∀ P ∈ P2, ∃ i ∈ P, i ∈ L.filter (splitB E X) := fun P hP => by
    obtain ⟨i, hi, hs⟩ := (g2 P hP).1.hits s2
    exact ⟨i, hi, List.mem_filter.2 ⟨(List.mem_filter.1 ((g2 P hP).2 i hi)).1, hs⟩⟩
  obtain ⟨a1, u1⟩ := apart_cut (l1.trans hCl.symm) d1 m1
  obtain ⟨a2, u2⟩ := apart_cut (l2.trans hCl.symm) d2 m2
  have pick : ∀ {Ps : List (List Nat)}, (∀ c ∈ L.filter (splitB E X), ∃ P ∈ Ps, c ∈ P) → ∃ p : Nat → List Nat, ∀ c ∈ L.filter (splitB E X), p c ∈ Ps ∧ c ∈ p c := by
    intro Ps h
    refine ⟨fun c => if hc : ∃ P ∈ Ps, c ∈ P then Classical.choose hc else [], fun c hc => ?_⟩
    have := h c hc
    simp only [dif_pos this]
    exact Classical.choose_spec this
  obtain ⟨p1, hp1⟩ := pick a1
  obtain ⟨p2, hp2⟩ := pick a2
  refine ⟨(L.filter (splitB E X)).map fun c => p1 c ++ p2 c, by rw [List.length_map, hCl], ?_, ?_⟩
  · intro P hP
    obtain ⟨c, hc, rfl⟩ := List.mem_map.1 hP
    obtain ⟨q1, c1⟩ := hp1 c hc
    obtain ⟨q2, c2⟩ := hp2 c hc
    refine ⟨?_, ?_⟩
    · intro F hF hE
      have hc0 := (split_iff X c).1 (List.mem_filter.1 hc).2
      have hFc := hE c (by simp [c1])
      obtain ⟨x, hx, hcx⟩ : ∃ x, F x = F (E c).1 ∧ X x = true := by
        cases h : X (E c).1 with
        | true => exact ⟨_, rfl, h⟩
        | false =>
          cases h' : X (E c).2 with
          | true => exact ⟨_, hFc.symm, h'⟩
          | false => exact absurd (h.trans h'.symm) hc0
      have k1 := (g1 _ q1).1 (fun v => if X v = true then F v else F (E c).1) (fun y z h => by
        unfold overIn at h
        cases hy : X y <;> cases hz : X z <;> simp [hy, hz] at h ⊢
        exact hF y z h) (fun i hi => by
        have hiL := List.mem_filter.1 ((g1 _ q1).2 i hi)
        have hFi := hE i (by simp [hi])
        cases hi1 : X (E i).1 <;> cases hi2 : X (E i).2
        · simp [hi1, hi2] at hiL
        · have : i = c := u1 _ q1 i (List.mem_filter.2 ⟨hiL.1, by simp [splitB, hi1, hi2]⟩) c hc hi c1
          subst this; simp [hFi]
        · have : i = c := u1 _ q1 i (List.mem_filter.2 ⟨hiL.1, by simp [splitB, hi1, hi2]⟩) c hc hi c1
          subst this; simp
        · simp [hFi])
      have k2 := (g2 _ q2).1 (fun v => if X v = true then F (E c).1 else F v) (fun y z h => by
        unfold overOut at h
        cases hy : X y <;> cases hz : X z <;> simp [hy, hz] at h ⊢
        exact hF y z h) (fun i hi => by
        have hiL := List.mem_filter.1 ((g2 _ q2).2 i hi)
        have hFi := hE i (by simp [hi])
        cases hi1 : X (E i).1 <;> cases hi2 : X (E i).2
        · simp [hFi]
        · have : i = c := u2 _ q2 i (List.mem_filter.2 ⟨hiL.1, by simp [splitB, hi1, hi2]⟩) c hc hi c2
          subst this; simp
        · have : i = c := u2 _ q2 i (List.mem_filter.2 ⟨hiL.1, by simp [splitB, hi1, hi2]⟩) c hc hi c2
          subst this; simp [hFi]
        · simp [hi1, hi2] at hiL)
      simp only [hX.here, hX.there, if_true] at k1 k2
      simp at k1 k2
      exact k1.trans k2
    · intro i hi
      rcases List.mem_append.1 hi with hi | hi
      · exact (List.mem_filter.1 ((g1 _ q1).2 i hi)).1
      · exact (List.mem_filter.1 ((g2 _ q2).2 i hi)).1
  · rw [List.pairwise_map]
    refine List.Pairwise.imp_of_mem ?_ hCn
    intro c c' hc hc' hne i hi hi'
    obtain ⟨q1, c1⟩ := hp1 c hc
    obtain ⟨q2, c2⟩ := hp2 c hc
    obtain ⟨r1, e1⟩ := hp1 c' hc'
    obtain ⟨r2, e2⟩ := hp2 c' hc'
    have cutof : ∀ P ∈ P1, ∀ Q ∈ P2, i ∈ P → i ∈ Q → i ∈ L.filter (splitB E X) := by
      intro P hP Q hQ h h'
      have x1 := List.mem_filter.1 ((g1 P hP).2 i h)
      have x2 := List.mem_filter.1 ((g2 Q hQ).2 i h')
      refine List.mem_filter.2 ⟨x1.1, ?_⟩
      have y1 := x1.2
      have y2 := x2.2
      unfold splitB
      cases hi1 : X (E i).1 <;> cases hi2 : X (E i).2 <;> simp [hi1, hi2] at y1 y2 ⊢
    rcases List.mem_append.1 hi with hi | hi <;> rcases List.mem_append.1 hi' with hi' | hi'
    · have e := apart_eq d1 _ q1 _ r1 i hi hi'
      exact hne (u1 _ q1 c hc c' hc' c1 (e ▸ e1))
    · have hic := cutof _ q1 _ r2 hi hi'
      exact hne ((u1 _ q1 c hc i hic c1 hi).trans (u2 _ r2 i hic c' hc' hi' e2))
    · have hic := cutof _ r1 _ q2 hi' hi
      exact hne ((u2 _ q2 c hc i hic c2 hi).trans (u1 _ r1 i hic c' hc' hi' e1))
    · have e := apart_eq d2 _ q2 _ r2 i hi hi'
      exact hne (u2 _ q2 c hc c' hc' c2 (e ▸ e2))
theorem erase_cut {L : List Nat} {e : Nat} (he : e ∈ L) (X : Nat → Bool) : L.countP (splitB E X) = (L.erase e).countP (splitB E X) + if splitB E X e = true then 1 else 0 := countP_erase_split he _
/-- The two ends of an edge, the one in X first. -/
def EndsAre (E : Nat → Nat × Nat) (i p q : Nat) : Prop := ((E i).1 = p ∧ (E i).2 = q) ∨ ((E i).1 = q ∧ (E i).2 = p)
theorem EndsAre.same {i p q : Nat} (h : EndsAre E i p q) {F : Nat → Nat} (hF : F (E i).1 = F (E i).2) : F p = F q := by
  rcases h with ⟨h1, h2⟩ | ⟨h1, h2⟩
  · rw [← h1, ← h2]; exact hF
  · rw [← h1, ← h2]; exact hF.symm
theorem EndsAre.split {i p q : Nat} (h : EndsAre E i p q) (X : Nat → Bool) : splitB E X i = (X p != X q) := by
  unfold splitB
  rcases h with ⟨h1, h2⟩ | ⟨h1, h2⟩
  · rw [h1, h2]
  · rw [h1, h2]; cases X p <;> cases X q <;> rfl
theorem split_ends {X : Nat → Bool} {i : Nat} (h : splitB E X i = true) : ∃ p q, X p = true ∧ X q = false ∧ EndsAre E i p q := by
  cases h1 : X (E i).1 <;> cases h2 : X (E i).2
  · simp [splitB, h1, h2] at h
  · exact ⟨_, _, h2, h1, .inr ⟨rfl, rfl⟩⟩
  · exact ⟨_, _, h1, h2, .inl ⟨rfl, rfl⟩⟩
  · simp [splitB, h1, h2] at h
theorem filter_same {L : List Nat} {p q : Nat → Bool} (h : ∀ i ∈ L, q i = true → p i = true) : (L.filter p).countP q = L.countP q := by
  rw [List.countP_filter]
  refine List.countP_congr fun i hi => ?_
  simp only [Bool.and_eq_true]
  exact ⟨fun hh => hh.1, fun hh => ⟨hh, h i hi hh⟩⟩
/-- As many paths apart as each cut has edges at least. -/
theorem menger (a b : Nat) : ∀ (m : Nat) (L : List Nat) (R : Nat → Nat) (k : Nat), L.length ≤ m → L.Nodup → R a ≠ R b → (∀ X, Side R X a b → k ≤ L.countP (splitB E X)) → Apart E L R a b k := by
  intro m
  induction m with
  | zero =>
    intro L R k hm _ hab hc
    have hL : L = [] := List.eq_nil_of_length_eq_zero (by omega)
    subst hL
    have := hc (fun v => decide (R v = R a)) ⟨fun x y h => by simp only [h], by simp, by simpa using fun h => hab h.symm⟩
    have hk : k = 0 := by simpa using this
    subst hk
    exact ⟨[], rfl, fun P hP => (by cases hP), List.Pairwise.nil⟩
  | succ m ih =>
    intro L R k hm hn hab hc
    cases k with
    | zero => exact ⟨[], rfl, fun P hP => (by cases hP), List.Pairwise.nil⟩
    | succ k =>
    have hA : Side R (fun v => decide (R v = R a)) a b := ⟨fun x y h => by simp only [h], by simp, by simpa using fun h => hab h.symm⟩
    have hB : Side R (fun v => !decide (R v = R b)) a b := ⟨fun x y h => by simp only [h], by simpa using hab, by simp⟩
    by_cases hdel : ∃ e ∈ L, ∀ X, Side R X a b → k + 1 ≤ (L.erase e).countP (splitB E X)
    · obtain ⟨e, he, h⟩ := hdel
      have hlen := List.length_erase_of_mem he
      have hpos := List.length_pos_of_mem he
      exact (ih (L.erase e) R (k + 1) (by omega) (hn.erase e) hab h).more fun i hi => List.mem_of_mem_erase hi
    · have htight : ∀ e ∈ L, ∃ X, Side R X a b ∧ L.countP (splitB E X) = k + 1 ∧ splitB E X e = true := by
        intro e he
        by_cases h : ∃ X, Side R X a b ∧ (L.erase e).countP (splitB E X) < k + 1
        · obtain ⟨X, hX, hlt⟩ := h
          have h1 := hc X hX
          have h2 := erase_cut (E := E) he X
          cases hs : splitB E X e with
          | true => rw [hs] at h2; exact ⟨X, hX, by simp at h2; omega, hs⟩
          | false => rw [hs] at h2; simp at h2; omega
        · refine absurd ⟨e, he, fun X hX => ?_⟩ hdel
          rcases Nat.lt_or_ge ((L.erase e).countP (splitB E X)) (k + 1) with h3 | h3
          · exact absurd ⟨X, hX, h3⟩ h
          · exact h3
      by_cases hbig : ∃ X, Side R X a b ∧ L.countP (splitB E X) = k + 1 ∧ (∃ i ∈ L, X (E i).1 = true ∧ X (E i).2 = true) ∧ ∃ i ∈ L, X (E i).1 = false ∧ X (E i).2 = false
      · obtain ⟨X, hX, hk, ⟨i, hi, hi1, hi2⟩, ⟨j, hj, hj1, hj2⟩⟩ := hbig
        refine apart_glue hn hX hk ?_ ?_
        · refine ih _ _ _ ?_ (hn.filter _) ?_ ?_
          · have : (L.filter fun i => X (E i).1 || X (E i).2).length < L.length := List.length_filter_lt_length_iff_exists.2 ⟨j, hj, by simp [hj1, hj2]⟩
            omega
          · simp [overIn, hX.here, hX.there]
          · intro Y hY
            have hYo : ∀ v, X v = false → Y v = false := fun v hv => by
              rw [← hY.there]; exact hY.resp v b (by simp [overIn, hv, hX.there])
            have hYR : Side R Y a b := ⟨fun x y h => by
              have hxy := hX.resp x y h
              refine hY.resp x y ?_
              unfold overIn; rw [hxy, h], hY.here, hY.there⟩
            rw [filter_same]
            · exact hc Y hYR
            · intro i _ hs
              cases h1 : X (E i).1 <;> cases h2 : X (E i).2 <;> simp
              simp [splitB, hYo _ h1, hYo _ h2] at hs
        · refine ih _ _ _ ?_ (hn.filter _) ?_ ?_
          · have : (L.filter fun i => !(X (E i).1 && X (E i).2)).length < L.length := List.length_filter_lt_length_iff_exists.2 ⟨i, hi, by simp [hi1, hi2]⟩
            omega
          · simp [overOut, hX.here, hX.there]
          · intro Y hY
            have hYo : ∀ v, X v = true → Y v = true := fun v hv => by
              rw [← hY.here]; exact hY.resp v a (by simp [overOut, hv, hX.here])
            have hYR : Side R Y a b := ⟨fun x y h => by
              have hxy := hX.resp x y h
              refine hY.resp x y ?_
              unfold overOut; rw [hxy, h], hY.here, hY.there⟩
            rw [filter_same]
            · exact hc Y hYR
            · intro i _ hs
              cases h1 : X (E i).1 <;> cases h2 : X (E i).2 <;> simp
              simp [splitB, hYo _ h1, hYo _ h2] at hs
      · have hstar : ∀ e ∈ L, (splitB E (fun v => decide (R v = R a)) e = true ∧ L.countP (splitB E (fun v => decide (R v = R a))) = k + 1) ∨ splitB E (fun v => !decide (R v = R b)) e = true := by
          intro e he
          obtain ⟨X, hX, hk, hs⟩ := htight e he
          by_cases hin : ∃ i ∈ L, X (E i).1 = true ∧ X (E i).2 = true
          · refine .inr ?_
            have hout : ∀ i ∈ L, splitB E (fun v => !decide (R v = R b)) i = true → splitB E X i = true := by
              intro i hi h
              obtain ⟨p, q, h1, h2, h3⟩ := split_ends h
              have hq : R q = R b := by simpa using h2
              have hXq : X q = false := by rw [hX.resp q b hq]; exact hX.there
              rw [h3.split X, hXq]
              cases hp : X p with
              | true => rfl
              | false =>
                refine absurd ⟨X, hX, hk, hin, i, hi, ?_⟩ hbig
                rcases h3 with ⟨e1, e2⟩ | ⟨e1, e2⟩
                · rw [e1, e2]; exact ⟨hp, hXq⟩
                · rw [e1, e2]; exact ⟨hXq, hp⟩
            exact countP_eq_of_le hout (by rw [hk]; exact hc _ hB) e he hs
          · refine .inl ?_
            have hsub : ∀ i ∈ L, splitB E (fun v => decide (R v = R a)) i = true → splitB E X i = true := by
              intro i hi h
              obtain ⟨p, q, h1, h2, h3⟩ := split_ends h
              have hp : R p = R a := by simpa using h1
              have hXp : X p = true := by rw [hX.resp p a hp]; exact hX.here
              rw [h3.split X, hXp]
              cases hq : X q with
              | false => rfl
              | true =>
                refine absurd ⟨i, hi, ?_⟩ hin
                rcases h3 with ⟨e1, e2⟩ | ⟨e1, e2⟩
                · rw [e1, e2]; exact ⟨hXp, hq⟩
                · rw [e1, e2]; exact ⟨hq, hXp⟩
            have hge := hc _ hA
            refine ⟨countP_eq_of_le hsub (by rw [hk]; exact hge) e he hs, ?_⟩
            have : L.countP (splitB E (fun v => decide (R v = R a))) ≤ L.countP (splitB E X) := List.countP_mono_left hsub
            omega
        have hpos : 0 < L.countP (splitB E (fun v => decide (R v = R a))) := by have := hc _ hA; omega
        obtain ⟨e, he, hes⟩ := List.countP_pos_iff.1 hpos
        obtain ⟨x, y, hx, hy, hxy⟩ := split_ends hes
        have hx' : R x = R a := by simpa using hx
        have hy' : ¬ R y = R a := by simpa using hy
        have hlen := List.length_erase_of_mem he
        have hlp := List.length_pos_of_mem he
        have hne : e ∉ L.erase e := fun h => (List.Nodup.mem_erase_iff hn).1 h |>.1 rfl
        by_cases hyb : R y = R b
        · refine Apart.add (ih (L.erase e) R k (by omega) (hn.erase e) hab ?_) (P := [e]) (fun i hi => List.mem_of_mem_erase hi) ?_ ?_
          · intro X hX
            have h1 := hc X hX
            rw [erase_cut (E := E) he X, hxy.split X, hX.resp x a hx', hX.resp y b hyb, hX.here, hX.there] at h1
            simp at h1; omega
          · intro F hF hE
            exact (hF a x hx'.symm).trans ((hxy.same (hE e (by simp))).trans (hF y b hyb))
          · intro i hi
            have : i = e := by simpa using hi
            subst this; exact ⟨he, hne⟩
        · by_cases hf : ∃ f ∈ L, ∃ p q, EndsAre E f p q ∧ R p = R y ∧ R q = R b
          · obtain ⟨f, hfL, p, q, hpq, hp, hq⟩ := hf
            have hfe : f ≠ e := by
              intro e0
              subst e0
              have h1 := hxy.split (fun v => decide (R v = R b))
              rw [hpq.split] at h1
              simp [hp, hq, hx', hab, hyb] at h1
            have hfL' : f ∈ L.erase e := (List.mem_erase_of_ne hfe).2 hfL
            have hlen2 := List.length_erase_of_mem hfL'
            refine Apart.add (ih ((L.erase e).erase f) R k (by omega) ((hn.erase e).erase f) hab ?_) (P := [e, f]) (fun i hi => List.mem_of_mem_erase (List.mem_of_mem_erase hi)) ?_ ?_
            · intro X hX
              have h1 := hc X hX
              rw [erase_cut (E := E) he X, erase_cut (E := E) hfL' X, hxy.split X, hpq.split X, hX.resp x a hx', hX.resp p y hp, hX.resp q b hq, hX.here, hX.there] at h1
              cases hXy : X y <;> rw [hXy] at h1 <;> simp at h1 <;> omega
            · intro F hF hE
              have h1 := hxy.same (hE e (by simp))
              have h2 := hpq.same (hE f (by simp))
              exact (hF a x hx'.symm).trans (h1.trans ((hF y p hp.symm).trans (h2.trans (hF q b hq))))
            · intro i hi
              have : i = e ∨ i = f := by simpa using hi
              rcases this with rfl | rfl
              · exact ⟨he, fun h => hne (List.mem_of_mem_erase h)⟩
              · exact ⟨hfL, fun h => ((List.Nodup.mem_erase_iff (hn.erase e)).1 h).1 rfl⟩
          · have hk1 : L.countP (splitB E (fun v => decide (R v = R a))) = k + 1 := by
              rcases hstar e he with h | h
              · exact h.2
              · rw [hxy.split] at h
                simp [hx', hab, hyb] at h
            have hS : Side R (fun v => decide (R v = R a) || decide (R v = R y)) a b := ⟨fun u v h => by simp only [h], by simp, by simp; exact ⟨fun h => hab h.symm, fun h => hyb h.symm⟩⟩
            have hsub : ∀ i ∈ L, splitB E (fun v => decide (R v = R a) || decide (R v = R y)) i = true → splitB E (fun v => decide (R v = R a)) i = true := by
              intro i hi h
              obtain ⟨p, q, h1, h2, h3⟩ := split_ends h
              have hq : ¬ R q = R a ∧ ¬ R q = R y := by simpa using h2
              have hp : R p = R a ∨ R p = R y := by simpa using h1
              rcases hstar i hi with h4 | h4
              · exact h4.1
              · rcases hp with hp | hp
                · rw [h3.split]; simp [hp, hq.1]
                · rw [h3.split] at h4
                  have : R q = R b := by
                    simp only [hp, hyb, decide_false, Bool.not_false] at h4
                    simpa using h4
                  exact absurd ⟨i, hi, p, q, h3, hp, this⟩ hf
            have hall := countP_eq_of_le hsub (by rw [hk1]; exact hc _ hS) e he hes
            rw [hxy.split] at hall
            simp [hx'] at hall
end
end Go.Proofs.Ytmfnlfcpnajngaa
