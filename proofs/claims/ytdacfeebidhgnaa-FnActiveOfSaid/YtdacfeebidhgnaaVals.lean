/- Plain facts on arrows that all come back: no set of nodes that no arrow leaves is entered by one; they are counted by the value of 0 and 2. -/
import Derived.Test.YtdacfeebidhgnaaActs
namespace Go.Proofs.Ytdacfeebidhgnaa
set_option maxRecDepth 100000

/-- No arrow leaves the set. -/
def closL : List (Nat × Nat) → (Nat → Bool) → (Nat → Bool) → Prop
  | [], _, _ => True
  | e :: es, T, S => (if T 0 = true then (S e.2 = true → S e.1 = true) else (S e.1 = true → S e.2 = true)) ∧ closL es (fun i => T (i + 1)) S
def SubB (R : Nat → Nat) (S : Nat → Bool) : Prop := ∀ x y, R x = R y → S x = S y
/-- All arrows come back: a set that none leaves none enters. -/
def TcP (R : Nat → Nat) (es : List (Nat × Nat)) (T : Nat → Bool) : Prop := ∀ S, SubB R S → closL es T S → closL es (fun i => !T i) S
theorem closL_iff {S : Nat → Bool} : ∀ (l : List (Nat × Nat)) (T : Nat → Bool), closL l T S ↔ ∀ k e, l[k]? = some e → S (frE e (T k)) = true → S (toE e (T k)) = true
  | [], T => by simp [closL]
  | e :: l, T => by
    unfold closL
    rw [closL_iff l]
    constructor
    · rintro ⟨h1, h2⟩ k f hk
      cases k with
      | zero =>
        simp only [List.getElem?_cons_zero, Option.some.injEq] at hk
        subst hk
        unfold frE toE
        split
        · rename_i ht; rwa [if_pos ht] at h1
        · rename_i ht; rwa [if_neg ht] at h1
      | succ k => rw [List.getElem?_cons_succ] at hk; exact h2 k f hk
    · intro hh
      refine ⟨?_, fun k f hk => hh (k + 1) f (by rw [List.getElem?_cons_succ]; exact hk)⟩
      have := hh 0 e (by simp)
      unfold frE toE at this
      split
      · rename_i ht; rwa [if_pos ht, if_pos ht] at this
      · rename_i ht; rwa [if_neg ht, if_neg ht] at this
/-- Neither left nor entered: both ends alike. -/
theorem closL_both {S : Nat → Bool} : ∀ (l : List (Nat × Nat)) (T : Nat → Bool), closL l T S → closL l (fun i => !T i) S → ∀ f ∈ l, S f.1 = S f.2
  | [], _, _, _, f, h => by simp at h
  | e :: l, T, h1, h2, f, h => by
    rcases List.mem_cons.1 h with rfl | h
    · have a := h1.1
      have b := h2.1
      rw [Bool.eq_iff_iff]
      cases hT : T 0 <;> simp only [hT, Bool.not_false, Bool.not_true, if_true, Bool.false_eq_true, if_false] at a b
      · exact ⟨a, b⟩
      · exact ⟨b, a⟩
    · exact closL_both l _ h1.2 h2.2 f h
theorem same_least {es : List (Nat × Nat)} {R : Nat → Nat} {S : Nat → Bool} (h : SubB R S) (hf : ∀ f ∈ es, S f.1 = S f.2) {x y : Nat} (hx : allR es R x = allR es R y) : S x = S y := by
  have h1 : Sub R fun x => if S x = true then 1 else 0 := fun x y h' => by show (if S x = true then 1 else 0) = if S y = true then 1 else 0; rw [h x y h']
  have h2 := allR_least es h1 (fun f hf' => by show (if S f.1 = true then 1 else 0) = if S f.2 = true then 1 else 0; rw [hf f hf']) x y hx
  have h3 : (if S x = true then 1 else 0) = if S y = true then 1 else 0 := h2
  cases hx : S x <;> cases hy : S y <;> simp [hx, hy] at h3 <;> rfl
theorem closL_same {S : Nat → Bool} : ∀ (l : List (Nat × Nat)) (T : Nat → Bool), (∀ f ∈ l, S f.1 = S f.2) → closL l T S
  | [], _, _ => trivial
  | e :: l, T, h => ⟨by have := h e (by simp); rw [this]; split <;> exact id, closL_same l _ fun f hf => h f (by simp [hf])⟩
theorem closL_or {S S' : Nat → Bool} : ∀ (l : List (Nat × Nat)) (T : Nat → Bool), closL l T S → closL l T S' → closL l T fun x => S x || S' x
  | [], _, _, _ => trivial
  | e :: l, T, h, h' => by
    refine ⟨?_, closL_or l _ h.2 h'.2⟩
    have a := h.1
    have b := h'.1
    by_cases hT : T 0 = true
    · rw [if_pos hT] at a b ⊢
      simp only [Bool.or_eq_true]
      exact Or.imp a b
    · rw [if_neg hT] at a b ⊢
      simp only [Bool.or_eq_true]
      exact Or.imp a b
theorem closL_and {S S' : Nat → Bool} : ∀ (l : List (Nat × Nat)) (T : Nat → Bool), closL l T S → closL l T S' → closL l T fun x => S x && S' x
  | [], _, _, _ => trivial
  | e :: l, T, h, h' => by
    refine ⟨?_, closL_and l _ h.2 h'.2⟩
    have a := h.1
    have b := h'.1
    by_cases hT : T 0 = true
    · rw [if_pos hT] at a b ⊢
      simp only [Bool.and_eq_true]
      exact And.imp a b
    · rw [if_neg hT] at a b ⊢
      simp only [Bool.and_eq_true]
      exact And.imp a b
theorem closL_ring {S S' : Nat → Bool} : ∀ (l : List (Nat × Nat)) (T : Nat → Bool), closL l T S' → closL l (fun i => !T i) (fun x => S x || S' x) → closL l (fun i => !T i) (fun x => S x && S' x) → closL l (fun i => !T i) S
  | [], _, _, _, _ => trivial
  | e :: l, T, h1, h2, h3 => by
    refine ⟨?_, closL_ring l _ h1.2 h2.2 h3.2⟩
    have a := h1.1
    have b := h2.1
    have c := h3.1
    cases hT : T 0 <;> simp only [hT, Bool.not_false, Bool.not_true, if_true, Bool.false_eq_true, if_false, Bool.or_eq_true, Bool.and_eq_true] at a b c ⊢
    · intro h
      rcases b (.inl h) with h' | h'
      · exact h'
      · exact (c ⟨h, a h'⟩).1
    · intro h
      rcases b (.inl h) with h' | h'
      · exact h'
      · exact (c ⟨h, a h'⟩).1
theorem SubB.glue {R : Nat → Nat} {S : Nat → Bool} (h : SubB R S) {a b : Nat} (hab : S a = S b) : SubB (Go.Proofs.Ytdacfeebidhgnaa.glue R a b) S := fun x y hxy => by
  rcases (glue_eq R a b x y).1 hxy with h1 | ⟨h1, h2⟩
  · exact h x y h1
  · have e1 : S x = S a := by
      rcases h1 with h1 | h1
      · exact h _ _ h1
      · rw [h _ _ h1, hab]
    have e2 : S y = S a := by
      rcases h2 with h2 | h2
      · exact h _ _ h2
      · rw [h _ _ h2, hab]
    rw [e1, e2]
theorem SubB.of_glue {R : Nat → Nat} {S : Nat → Bool} {a b : Nat} (h : SubB (Go.Proofs.Ytdacfeebidhgnaa.glue R a b) S) : SubB R S ∧ S a = S b :=
  ⟨fun x y hxy => h x y (glue_kept hxy _ _), h _ _ (by rw [glue_self, glue_other])⟩
theorem tc_ker {R R' : Nat → Nat} (h : Ker R R') (es : List (Nat × Nat)) (T : Nat → Bool) : TcP R es T ↔ TcP R' es T :=
  ⟨fun hh S hs => hh S fun x y e => hs x y ((h x y).1 e), fun hh S hs => hh S fun x y e => hs x y ((h x y).2 e)⟩
theorem tc_loop {R : Nat → Nat} {e : Nat × Nat} (he : R e.1 = R e.2) (es : List (Nat × Nat)) (T : Nat → Bool) : TcP R (e :: es) T ↔ TcP R es fun i => T (i + 1) := by
  constructor
  · intro h S hs hc
    refine (h S hs ⟨?_, hc⟩).2
    rw [hs _ _ he]; split <;> exact id
  · intro h S hs hc
    refine ⟨?_, h S hs hc.2⟩
    rw [hs _ _ he]; split <;> exact id
theorem tc_bridge {R : Nat → Nat} {e : Nat × Nat} {es : List (Nat × Nat)} (he : allR es R e.1 ≠ allR es R e.2) (T : Nat → Bool) : ¬ TcP R (e :: es) T := fun h => by
  cases hT : T 0 with
  | false =>
    have := h (fun x => decide (allR es R x = allR es R e.2)) (fun x y h' => by show decide _ = decide _; rw [allR_sub es R x y h']) ⟨by
      rw [hT]; simp, closL_same es _ fun f hf => by show decide _ = decide _; rw [allR_has es R f hf]⟩
    have := this.1
    simp only [hT, Bool.not_false, if_true, decide_eq_true_eq, forall_const] at this
    exact he this
  | true =>
    have := h (fun x => decide (allR es R x = allR es R e.1)) (fun x y h' => by show decide _ = decide _; rw [allR_sub es R x y h']) ⟨by
      rw [hT]; simp, closL_same es _ fun f hf => by show decide _ = decide _; rw [allR_has es R f hf]⟩
    have := this.1
    simp only [hT, Bool.not_true, Bool.false_eq_true, if_false, decide_eq_true_eq, forall_const] at this
    exact he this.symm
/-- With the arrow either way. -/
def preT (b : Bool) (T : Nat → Bool) (i : Nat) : Bool := if i = 0 then b else T (i - 1)
theorem preT_zero (b : Bool) (T : Nat → Bool) : preT b T 0 = b := rfl
theorem preT_succ (b : Bool) (T : Nat → Bool) : (fun i => preT b T (i + 1)) = T := by funext i; simp [preT]
theorem clos_off {e : Nat × Nat} {es : List (Nat × Nat)} {T S : Nat → Bool} : closL (e :: es) (preT false T) S ↔ (S e.1 = true → S e.2 = true) ∧ closL es T S := by
  show ((if preT false T 0 = true then (S e.2 = true → S e.1 = true) else (S e.1 = true → S e.2 = true)) ∧ closL es (fun i => preT false T (i + 1)) S) ↔ _
  rw [preT_succ, preT_zero]; simp
theorem clos_on {e : Nat × Nat} {es : List (Nat × Nat)} {T S : Nat → Bool} : closL (e :: es) (preT true T) S ↔ (S e.2 = true → S e.1 = true) ∧ closL es T S := by
  show ((if preT true T 0 = true then (S e.2 = true → S e.1 = true) else (S e.1 = true → S e.2 = true)) ∧ closL es (fun i => preT true T (i + 1)) S) ↔ _
  rw [preT_succ, preT_zero]; simp
theorem preT_not (b : Bool) (T : Nat → Bool) : (fun i => !preT b T i) = preT (!b) fun i => !T i := by
  funext i; unfold preT; split <;> rfl
theorem tc_offP {R : Nat → Nat} {e : Nat × Nat} {es : List (Nat × Nat)} {T : Nat → Bool} : TcP R (e :: es) (preT false T) ↔ ∀ S, SubB R S → (S e.1 = true → S e.2 = true) → closL es T S → (S e.2 = true → S e.1 = true) ∧ closL es (fun i => !T i) S := by
  unfold TcP
  rw [preT_not]
  simp only [clos_off, Bool.not_false, clos_on]
  exact ⟨fun h S a b c => h S a ⟨b, c⟩, fun h S a b => h S a b.1 b.2⟩
theorem tc_onP {R : Nat → Nat} {e : Nat × Nat} {es : List (Nat × Nat)} {T : Nat → Bool} : TcP R (e :: es) (preT true T) ↔ ∀ S, SubB R S → (S e.2 = true → S e.1 = true) → closL es T S → (S e.1 = true → S e.2 = true) ∧ closL es (fun i => !T i) S := by
  unfold TcP
  rw [preT_not]
  simp only [clos_off, Bool.not_true, clos_on]
  exact ⟨fun h S a b c => h S a ⟨b, c⟩, fun h S a b => h S a b.1 b.2⟩
theorem tc_and {R : Nat → Nat} {e : Nat × Nat} {es : List (Nat × Nat)} {T : Nat → Bool} (he : allR es R e.1 = allR es R e.2) : (TcP R (e :: es) (preT false T) ∧ TcP R (e :: es) (preT true T)) ↔ TcP R es T := by
  rw [tc_offP, tc_onP]
  constructor
  · rintro ⟨h1, h2⟩ S hs hc
    by_cases h : S e.1 = true → S e.2 = true
    · exact (h1 S hs h hc).2
    · exact (h2 S hs (fun h' => absurd (fun _ => h') h) hc).2
  · intro h
    have hh : ∀ S, SubB R S → closL es T S → S e.1 = S e.2 := fun S hs hc => same_least hs (closL_both es T hc (h S hs hc)) he
    exact ⟨fun S hs _ hc => ⟨by rw [hh S hs hc]; exact id, h S hs hc⟩, fun S hs _ hc => ⟨by rw [hh S hs hc]; exact id, h S hs hc⟩⟩
theorem tc_or {R : Nat → Nat} {e : Nat × Nat} {es : List (Nat × Nat)} {T : Nat → Bool} (he : allR es R e.1 = allR es R e.2) : (TcP R (e :: es) (preT false T) ∨ TcP R (e :: es) (preT true T)) ↔ TcP (glue R e.1 e.2) es T := by
  rw [tc_offP, tc_onP]
  constructor
  · rintro (h | h) S hs hc
    · exact (h S hs.of_glue.1 (by rw [hs.of_glue.2]; exact id) hc).2
    · exact (h S hs.of_glue.1 (by rw [hs.of_glue.2]; exact id) hc).2
  · intro h
    refine Classical.byContradiction fun hn => ?_
    obtain ⟨n1, n2⟩ := not_or.1 hn
    obtain ⟨S, hs, h1, hc, hne⟩ : ∃ S, SubB R S ∧ (S e.1 = true → S e.2 = true) ∧ closL es T S ∧ ¬ ((S e.2 = true → S e.1 = true) ∧ closL es (fun i => !T i) S) :=
      Classical.byContradiction fun hx => n1 fun S a b c => Classical.byContradiction fun hy => hx ⟨S, a, b, c, hy⟩
    obtain ⟨S', hs', h1', hc', hne'⟩ : ∃ S, SubB R S ∧ (S e.2 = true → S e.1 = true) ∧ closL es T S ∧ ¬ ((S e.1 = true → S e.2 = true) ∧ closL es (fun i => !T i) S) :=
      Classical.byContradiction fun hx => n2 fun S a b c => Classical.byContradiction fun hy => hx ⟨S, a, b, c, hy⟩
    have d1 : S e.1 ≠ S e.2 := fun hh => hne ⟨by rw [hh]; exact id, h S (hs.glue hh) hc⟩
    have d2 : S' e.1 ≠ S' e.2 := fun hh => hne' ⟨by rw [hh]; exact id, h S' (hs'.glue hh) hc'⟩
    have a1 : S e.1 = false ∧ S e.2 = true := by
      cases x : S e.1 <;> cases y : S e.2 <;> simp [x, y] at d1 h1 ⊢
    have a2 : S' e.1 = true ∧ S' e.2 = false := by
      cases x : S' e.1 <;> cases y : S' e.2 <;> simp [x, y] at d2 h1' ⊢
    have b1 := h (fun x => S x || S' x) (SubB.glue (fun x y hxy => by show (S x || S' x) = (S y || S' y); rw [hs x y hxy, hs' x y hxy]) (by show (S e.1 || S' e.1) = (S e.2 || S' e.2); rw [a1.1, a1.2, a2.1, a2.2]; rfl)) (closL_or es T hc hc')
    have b2 := h (fun x => S x && S' x) (SubB.glue (fun x y hxy => by show (S x && S' x) = (S y && S' y); rw [hs x y hxy, hs' x y hxy]) (by show (S e.1 && S' e.1) = (S e.2 && S' e.2); rw [a1.1, a1.2, a2.1, a2.2]; rfl)) (closL_and es T hc hc')
    exact d1 (same_least hs (closL_both es T hc (closL_ring es T hc' b1 b2)) he)
noncomputable def tcB (R : Nat → Nat) (es : List (Nat × Nat)) (T : Nat → Bool) : Bool := @decide (TcP R es T) (Classical.propDecidable _)
theorem tcB_iff {R : Nat → Nat} {es : List (Nat × Nat)} {T : Nat → Bool} : tcB R es T = true ↔ TcP R es T := by unfold tcB; exact @decide_eq_true_iff _ (Classical.propDecidable _)
/-- In how many ways all arrows come back. -/
noncomputable def tcN (R : Nat → Nat) (es : List (Nat × Nat)) : Nat := (List.range (2 ^ es.length)).countP fun s => tcB R es fun i => s.testBit i
theorem pre_even (s : Nat) : (fun i => (2 * s).testBit i) = preT false fun i => s.testBit i := by
  funext i
  cases i with
  | zero => exact first_even s
  | succ i => rw [bit_even]; simp [preT]
theorem pre_odd (s : Nat) : (fun i => (2 * s + 1).testBit i) = preT true fun i => s.testBit i := by
  funext i
  cases i with
  | zero => exact first_odd s
  | succ i => rw [bit_odd]; simp [preT]
theorem tcN_split (R : Nat → Nat) (e : Nat × Nat) (es : List (Nat × Nat)) : tcN R (e :: es) = (List.range (2 ^ es.length)).countP (fun s => tcB R (e :: es) (preT false fun i => s.testBit i)) + (List.range (2 ^ es.length)).countP (fun s => tcB R (e :: es) (preT true fun i => s.testBit i)) := by
  unfold tcN
  rw [List.length_cons, Nat.pow_succ, Nat.mul_comm, countP_double]
  simp only [pre_even, pre_odd]
theorem tcN_loop {R : Nat → Nat} {e : Nat × Nat} (es : List (Nat × Nat)) (h : R e.1 = R e.2) : tcN R (e :: es) = 2 * tcN R es := by
  rw [tcN_split, Nat.two_mul]
  unfold tcN
  congr 1
  · refine countP_same fun s _ => ?_
    rw [Bool.eq_iff_iff, tcB_iff, tcB_iff, tc_loop h, preT_succ]
  · refine countP_same fun s _ => ?_
    rw [Bool.eq_iff_iff, tcB_iff, tcB_iff, tc_loop h, preT_succ]
theorem tcN_bridge {R : Nat → Nat} {e : Nat × Nat} {es : List (Nat × Nat)} (h : allR es R e.1 ≠ allR es R e.2) : tcN R (e :: es) = 0 := by
  unfold tcN
  rw [List.countP_eq_zero]
  intro s _ hh
  exact tc_bridge h _ (tcB_iff.1 hh)
theorem tcN_both {R : Nat → Nat} {e : Nat × Nat} {es : List (Nat × Nat)} (h : allR es R e.1 = allR es R e.2) : tcN R (e :: es) = tcN R es + tcN (glue R e.1 e.2) es := by
  rw [tcN_split, Nat.add_comm (tcN R es)]
  unfold tcN
  refine countP_duo fun s _ => ?_
  refine four_way ?_ ?_
  · rw [tcB_iff, tcB_iff, tcB_iff, tc_and h]
  · rw [tcB_iff, tcB_iff, tcB_iff, tc_or h]
theorem tcN_val : ∀ (es : List (Nat × Nat)) (R : Nat → Nat), (tcN R es : Int) = edgeV 0 2 es R
  | [], R => by
    have h : tcB R [] (fun i => Nat.testBit 0 i) = true := tcB_iff.2 fun S _ _ => trivial
    unfold tcN
    simp only [List.length_nil, Nat.pow_zero, List.range_one, List.countP_cons, List.countP_nil, h, if_true, edgeV]; rfl
  | e :: es, R => by
    simp only [edgeV]
    rw [← tcN_val es R, ← tcN_val es (glue R e.1 e.2)]
    by_cases h : R e.1 = R e.2
    · rw [if_pos h, tcN_loop es h]; omega
    · rw [if_neg h]
      by_cases h2 : allR es R e.1 = allR es R e.2
      · rw [if_pos h2, tcN_both h2]; omega
      · rw [if_neg h2, tcN_bridge h2]; omega
/-- No edge alone joins two pieces. -/
def NoBr (es : List (Nat × Nat)) (R : Nat → Nat) : Prop := ∀ l1 e l2, es = l1 ++ e :: l2 → allR (l1 ++ l2) R e.1 = allR (l1 ++ l2) R e.2
theorem tcN_some : ∀ (es : List (Nat × Nat)) (R : Nat → Nat), NoBr es R → 0 < tcN R es
  | [], R, _ => by have := tcN_val [] R; simp only [edgeV] at this; omega
  | e :: es, R, h => by
    by_cases hr : R e.1 = R e.2
    · have := tcN_some es R fun l1 f l2 hl => (allR_ker (l1 ++ l2) (Ker.joined hr) _ _).1 (h (e :: l1) f l2 (by rw [hl]; rfl))
      rw [tcN_loop es hr]; omega
    · have h2 : allR es R e.1 = allR es R e.2 := h [] e es rfl
      have := tcN_some es (glue R e.1 e.2) fun l1 f l2 hl => h (e :: l1) f l2 (by rw [hl]; rfl)
      rw [tcN_both h2]; omega
theorem tcN_none {l1 l2 : List (Nat × Nat)} {e : Nat × Nat} {R : Nat → Nat} (h : allR (l1 ++ l2) R e.1 ≠ allR (l1 ++ l2) R e.2) : tcN R (l1 ++ e :: l2) = 0 := by
  have h1 := tcN_val (l1 ++ e :: l2) R
  rw [edge_val, valR_move, valR_bridge 0 2 h] at h1
  omega
/-- Arrows that never come back do not all come back. -/
theorem tc_acy {es : List (Nat × Nat)} (h0 : 0 < es.length) {R : Nat → Nat} {T : Nat → Bool} (h : TcP R es T) : ¬ Rkd R es T := by
  rintro ⟨f, hs, hr⟩
  obtain ⟨e, he⟩ : ∃ e, es[0]? = some e := ⟨_, List.getElem?_eq_getElem h0⟩
  have h1 := (rises_iff es T).1 hr
  have h2 := h (fun x => decide (f (toE e (T 0)) ≤ f x)) (fun x y hxy => by show decide _ = decide _; rw [hs x y hxy]) ((closL_iff es T).2 fun k g hk hg => by
    have := h1 k g hk
    simp only [decide_eq_true_eq] at hg ⊢
    omega)
  have h3 := (closL_iff es _).1 h2 0 e he
  have h4 := h1 0 e he
  cases hT : T 0 <;> simp only [hT, frE, toE, Bool.not_true, Bool.not_false, if_true, Bool.false_eq_true, if_false, decide_eq_true_eq, Nat.le_refl, forall_const] at h3 h4 <;> omega
theorem countP_apart {p q : Nat → Bool} : ∀ n, (∀ s, p s = true → q s = true → False) → (List.range n).countP p + (List.range n).countP q ≤ n
  | 0, _ => by simp
  | n + 1, h => by
    have := countP_apart n h
    rw [List.range_succ, List.countP_append, List.countP_append]
    simp only [List.countP_cons, List.countP_nil]
    have := h n
    cases hp : p n <;> cases hq : q n <;> simp [hp, hq] at this ⊢ <;> omega
theorem tc_le {es : List (Nat × Nat)} (h0 : 0 < es.length) (R : Nat → Nat) : tcN R es + acyN R es ≤ 2 ^ es.length := by
  unfold tcN acyN
  exact countP_apart _ fun s h1 h2 => tc_acy h0 (tcB_iff.1 h1) (rkB_iff.1 h2)
/-- From one node to another along arrows. -/
inductive Leads (l : List (Nat × Nat)) (T : Nat → Bool) (x : Nat) : Nat → Prop
  | refl : Leads l T x x
  | step {k : Nat} {e : Nat × Nat} : Leads l T x (frE e (T k)) → l[k]? = some e → Leads l T x (toE e (T k))
theorem leads_in {l : List (Nat × Nat)} {T S : Nat → Bool} (hc : closL l T S) {x y : Nat} (h : Leads l T x y) (hx : S x = true) : S y = true := by
  induction h with
  | refl => exact hx
  | step _ he ih => exact (closL_iff l T).1 hc _ _ he ih
theorem tc_leads {l : List (Nat × Nat)} {T : Nat → Bool} : TcP (fun x => x) l T ↔ ∀ k e, l[k]? = some e → Leads l T (toE e (T k)) (frE e (T k)) := by
  constructor
  · intro h k e he
    have h1 := h (fun y => @decide (Leads l T (toE e (T k)) y) (Classical.propDecidable _)) (fun x y hxy => by rw [show x = y from hxy]) ((closL_iff l T).2 fun i f hi hf => by
      simp only [decide_eq_true_eq] at hf ⊢
      exact hf.step hi)
    have h2 := (closL_iff l _).1 h1 k e he
    have h3 : frE e (!T k) = toE e (T k) := by cases T k <;> rfl
    have h4 : toE e (!T k) = frE e (T k) := by cases T k <;> rfl
    rw [h3, h4] at h2
    simp only [decide_eq_true_eq] at h2
    exact h2 .refl
  · intro h S _ hc
    refine (closL_iff l _).2 fun k e he => ?_
    have h3 : frE e (!T k) = toE e (T k) := by cases T k <;> rfl
    have h4 : toE e (!T k) = frE e (T k) := by cases T k <;> rfl
    rw [h3, h4]
    exact leads_in hc (h k e he)
end Go.Proofs.Ytdacfeebidhgnaa

/- Plain facts: what the value tells at some numbers: least states, states without a ring, all states, arrows, paintings, flows, whole states. -/
namespace Go.Proofs.Ytdacfeebidhgnaa
set_option maxRecDepth 100000

theorem powI_one (k : Nat) : (1 : Int) ^ k = 1 := by
  induction k with
  | zero => rfl
  | succ k ih => rw [Int.pow_succ, ih]; rfl
theorem powI_zero {k : Nat} (h : k ≠ 0) : (0 : Int) ^ k = 0 := by
  obtain ⟨j, rfl⟩ : ∃ j, k = j + 1 := ⟨k - 1, by omega⟩
  rw [Int.pow_succ]; omega
theorem powI_neg (x : Int) (k : Nat) : (-x) ^ k = sgn k (x ^ k) := by
  induction k with
  | zero => rw [Int.pow_zero, Int.pow_zero, sgn_zero]
  | succ k ih =>
    rw [Int.pow_succ, ih, sgn_succ, Int.pow_succ, sgn_mul k (x ^ k), sgn_mul k (x ^ k * x), Int.mul_neg, Int.mul_assoc]
theorem sgn_prod (a b : Nat) : sgn a 1 * sgn b 1 = sgn (a + b) 1 := by rw [← sgn_mul, sgn_both]
/-- How many least states there are. -/
def baseN (es : List (Nat × Nat)) (R : Nat → Nat) : Nat := (List.range (2 ^ es.length)).countP fun s => baseB es R fun i => s.testBit i
theorem sumS_count {p : Nat → Bool} {f : Nat → Int} (h : ∀ s, f s = if p s = true then 1 else 0) : ∀ n, sumS f n = (((List.range n).countP p : Nat) : Int)
  | 0 => rfl
  | n + 1 => by
    rw [List.range_succ, List.countP_append]
    simp only [sumS, sumS_count h n, h n, List.countP_cons, List.countP_nil]
    split <;> omega
theorem val_bases (es : List (Nat × Nat)) (R : Nat → Nat) : valR 1 1 es R = (baseN es R : Int) := by
  rw [← act_val 1 1 _ es R rfl]
  unfold actR baseN
  exact sumS_count (fun s => by unfold actT; rw [powI_one, powI_one]; rfl) _
theorem edge_pos {x y : Int} (hx : 1 ≤ x) (hy : 1 ≤ y) : ∀ (es : List (Nat × Nat)) (R : Nat → Nat), 1 ≤ edgeV x y es R
  | [], _ => Int.le_refl _
  | e :: es, R => by
    have h1 := edge_pos hx hy es R
    have h2 := edge_pos hx hy es (glue R e.1 e.2)
    have h3 := Int.mul_le_mul hy h1 (by decide) (by omega)
    have h4 := Int.mul_le_mul hx h2 (by decide) (by omega)
    simp only [edgeV]
    split
    · omega
    · split <;> omega
theorem base_some (es : List (Nat × Nat)) (R : Nat → Nat) : 1 ≤ baseN es R := by
  have h1 := val_bases es R
  have h2 := edge_pos (x := 1) (y := 1) (by decide) (by decide) es R
  rw [edge_val] at h2; omega
theorem tut_ones : ∀ (es : List (Nat × Nat)) (R : Nat → Nat) (t r : Nat), tut (fun _ _ => 1) es R t r = ((2 ^ es.length : Nat) : Int)
  | [], _, _, _ => rfl
  | e :: es, R, t, r => by
    simp only [tut, tut_ones es, List.length_cons, Nat.pow_succ]
    split <;> omega
theorem val_all (es : List (Nat × Nat)) (R : Nat → Nat) : valR 2 2 es R = ((2 ^ es.length : Nat) : Int) := by
  rw [← tut_ones es R 0 0]
  show tut _ es R 0 0 = _
  rw [tut_leafR (leaf := valLeaf 2 2 (rkA es R)) (leaf' := fun _ _ => 1) (c := 1) es R 0 0 0 0 fun a b _ _ _ => by
    unfold valLeaf; rw [show (2 : Int) - 1 = 1 from rfl, powI_one, powI_one]]
  omega
theorem val_acy (es : List (Nat × Nat)) (R : Nat → Nat) : valR 2 0 es R = (acyN R es : Int) := by
  rw [acy_tut]
  show tut _ es R 0 0 = _
  rw [tut_leafR (leaf := valLeaf 2 0 (rkA es R)) (leaf' := arrLeaf) (c := 1) es R 0 0 0 0 fun a b h _ _ => by
    unfold valLeaf arrLeaf
    rw [show (2 : Int) - 1 = 1 from rfl, powI_one, show (0 : Int) - 1 = -1 from rfl, sgn_pow, sgn_par (show (0 + a - (0 + b)) % 2 = (0 + a + (0 + b)) % 2 by omega)]]
  omega
theorem val_tc (es : List (Nat × Nat)) (R : Nat → Nat) : valR 0 2 es R = (tcN R es : Int) := by rw [tcN_val, edge_val]
theorem forests_more : ∀ (es : List (Nat × Nat)) (R : Nat → Nat) (k : Nat), es.length < k → forests es R k = 0
  | [], _, k, h => by simp only [forests]; rw [if_neg (by simp at h; omega)]
  | e :: es, R, 0, h => by simp at h
  | e :: es, R, k + 1, h => by
    simp only [List.length_cons] at h
    simp only [forests]
    rw [forests_more es R (k + 1) (by omega), forests_more es _ k (by omega)]
    simp
theorem sumN_front (f : Nat → Nat) : ∀ n, sumN f (n + 1) = f 0 + sumN (fun k => f (k + 1)) n
  | 0 => by simp [sumN]
  | n + 1 => by
    rw [sumN, sumN_front f n, sumN]; omega
def forLeaf (t r : Nat) : Int := if t = r then 1 else 0
theorem for_none : ∀ (es : List (Nat × Nat)) (R : Nat → Nat) (t r : Nat), r < t → tut forLeaf es R t r = 0
  | [], _, t, r, h => by simp only [tut, forLeaf]; rw [if_neg (by omega)]
  | e :: es, R, t, r, h => by
    simp only [tut]
    rw [for_none es R t r h, for_none es R (t + 1) r (by omega), for_none es _ (t + 1) (r + 1) (by omega)]
    split <;> rfl
theorem for_sum : ∀ (es : List (Nat × Nat)) (R : Nat → Nat) (t : Nat), tut forLeaf es R t t = ((sumN (forests es R) (es.length + 1) : Nat) : Int)
  | [], _, t => by simp [tut, forLeaf, sumN, forests]
  | e :: es, R, t => by
    rw [List.length_cons, sumN_front]
    have h1 : sumN (fun k => forests (e :: es) R (k + 1)) (es.length + 1) = sumN (fun k => forests es R (k + 1)) (es.length + 1) + sumN (fun k => if R e.1 = R e.2 then 0 else forests es (glue R e.1 e.2) k) (es.length + 1) := by
      rw [← sumN_add]; rfl
    have h2 := sumN_front (forests es R) (es.length + 1)
    have h3 : sumN (forests es R) (es.length + 1 + 1) = sumN (forests es R) (es.length + 1) + forests es R (es.length + 1) := rfl
    rw [forests_more es R (es.length + 1) (by omega)] at h3
    have h4 : forests (e :: es) R 0 = forests es R 0 := rfl
    have h5 := for_sum es R t
    simp only [tut]
    by_cases hj : R e.1 = R e.2
    · rw [if_pos hj, for_none es R (t + 1) t (by omega)]
      simp only [if_pos hj] at h1
      have h6 : sumN (fun _ => 0) (es.length + 1) = 0 := by
        generalize es.length + 1 = m
        induction m with
        | zero => rfl
        | succ m ih => rw [sumN, ih]
      omega
    · rw [if_neg hj, for_sum es _ (t + 1)]
      simp only [if_neg hj] at h1
      have h6 : sumN (fun k => forests es (glue R e.1 e.2) k) (es.length + 1) = sumN (forests es (glue R e.1 e.2)) (es.length + 1) := rfl
      omega
theorem val_forests (es : List (Nat × Nat)) (R : Nat → Nat) : valR 2 1 es R = ((sumN (forests es R) (es.length + 1) : Nat) : Int) := by
  rw [← for_sum es R 0]
  show tut _ es R 0 0 = _
  rw [tut_leafR (leaf := valLeaf 2 1 (rkA es R)) (leaf' := forLeaf) (c := 1) es R 0 0 0 0 fun a b h _ _ => by
    unfold valLeaf forLeaf
    rw [show (2 : Int) - 1 = 1 from rfl, powI_one, show (1 : Int) - 1 = 0 from rfl]
    by_cases hab : a = b
    · subst hab; rw [if_pos rfl]; simp
    · rw [if_neg (by omega), powI_zero (by omega)]]
  omega
theorem val_paint {c : Int} {n : Nat} {es : List (Nat × Nat)} {R : Nat → Nat} (hn : rkA es R ≤ n) : tut (paintLeaf c n) es R 0 0 = sgn (rkA es R) (c ^ (n - rkA es R) * valR (1 - c) 0 es R) := by
  show _ = sgn _ (_ * tut _ es R 0 0)
  generalize hρ : rkA es R = ρ at *
  rw [tut_leafR (leaf := paintLeaf c n) (leaf' := valLeaf (1 - c) 0 ρ) (c := sgn ρ (c ^ (n - ρ))) es R 0 0 0 0 fun a b h1 h2 h3 => by
    rw [hρ] at h2
    unfold valLeaf paintLeaf
    rw [show 1 - c - 1 = -c by omega, show (0 : Int) - 1 = -1 from rfl, powI_neg c, sgn_pow]
    rw [show n - (0 + b) = (n - ρ) + (ρ - (0 + b)) by omega, Int.pow_add]
    generalize c ^ (n - ρ) = P
    generalize c ^ (ρ - (0 + b)) = Q
    rw [sgn_mul (0 + a) (P * Q), sgn_mul ρ P, sgn_mul (ρ - (0 + b)) Q]
    rw [sgn_par (show (0 + a) % 2 = (ρ + ((ρ - (0 + b)) + (0 + a - (0 + b)))) % 2 by omega), ← sgn_prod, ← sgn_prod]
    generalize sgn ρ 1 = A
    generalize sgn (ρ - (0 + b)) 1 = B
    generalize sgn (0 + a - (0 + b)) 1 = C
    rw [Int.mul_assoc A P, Int.mul_assoc A (B * C)]
    congr 1
    rw [Int.mul_comm (B * C), Int.mul_assoc P Q]
    congr 1
    rw [Int.mul_comm B Q, Int.mul_assoc]]
  rw [sgn_mul, sgn_mul ρ (c ^ (n - ρ) * _), Int.mul_assoc]
theorem val_flow {x : Int} {M : Nat} {es : List (Nat × Nat)} {R : Nat → Nat} (hn : rkA es R ≤ M) : tut (flowLeaf x M) es R 0 0 = sgn (M - rkA es R) (valR 0 (1 - x) es R) := by
  show _ = sgn _ (tut _ es R 0 0)
  generalize hρ : rkA es R = ρ at *
  rw [tut_leafR (leaf := flowLeaf x M) (leaf' := valLeaf 0 (1 - x) ρ) (c := sgn (M - ρ) 1) es R 0 0 0 0 fun a b h1 h2 h3 => by
    rw [hρ] at h2
    unfold valLeaf flowLeaf
    rw [show 1 - x - 1 = -x by omega, show (0 : Int) - 1 = -1 from rfl, powI_neg x, sgn_pow]
    generalize x ^ (0 + a - (0 + b)) = P
    rw [sgn_mul (M + (0 + a)) P, sgn_mul (0 + a - (0 + b)) P]
    rw [sgn_par (show (M + (0 + a)) % 2 = ((M - ρ) + ((ρ - (0 + b)) + (0 + a - (0 + b)))) % 2 by omega), ← sgn_prod, ← sgn_prod]
    rw [Int.mul_assoc, Int.mul_assoc]]
  rw [sgn_mul (M - ρ) (tut _ _ _ _ _)]
def wholeLeaf (n : Nat) (_t r : Nat) : Int := if r + 1 = n then 1 else 0
theorem whole_sum {n : Nat} : ∀ (es : List (Nat × Nat)) (R : Nat → Nat) (t r : Nat), EdgesOk n es → Good n R → cnt R n + r = n → tut (wholeLeaf n) es R t r = ((sumN (ways (whole1 n) es R) (es.length + 1) : Nat) : Int)
  | [], R, t, r, _, _, h => by
    simp only [tut, wholeLeaf, List.length_nil, sumN, ways, whole1, Nat.zero_add]
    by_cases h1 : cnt R n = 1
    · rw [if_pos (by omega)]; simp [h1]
    · rw [if_neg (by omega)]; simp [h1]
  | e :: es, R, t, r, he, hg, h => by
    have he' : EdgesOk n es := fun x hx => he x (by simp [hx])
    have hee := he e (by simp)
    have hb : Blind (whole1 n) ∨ True := .inr trivial
    rw [List.length_cons, sumN_front]
    have h1 : sumN (fun k => ways (whole1 n) (e :: es) R (k + 1)) (es.length + 1) = sumN (fun k => ways (whole1 n) es R (k + 1)) (es.length + 1) + sumN (fun k => ways (whole1 n) es (glue R e.1 e.2) k) (es.length + 1) := by
      rw [← sumN_add]; rfl
    have h2 := sumN_front (ways (whole1 n) es R) (es.length + 1)
    have h3 : sumN (ways (whole1 n) es R) (es.length + 1 + 1) = sumN (ways (whole1 n) es R) (es.length + 1) + ways (whole1 n) es R (es.length + 1) := rfl
    rw [ways_more (whole1 n) es R (es.length + 1) (by omega)] at h3
    have h4 : ways (whole1 n) (e :: es) R 0 = ways (whole1 n) es R 0 := rfl
    have h5 := whole_sum es R t r he' hg h
    have h6 := cnt_glue (a := e.1) hg.idem hg.range hee.2
    have h7 : sumN (fun k => ways (whole1 n) es (glue R e.1 e.2) k) (es.length + 1) = sumN (ways (whole1 n) es (glue R e.1 e.2)) (es.length + 1) := rfl
    simp only [tut]
    by_cases hj : R e.1 = R e.2
    · rw [if_pos hj] at h6 ⊢
      have h8 := whole_sum es (glue R e.1 e.2) (t + 1) r he' (hg.glue hee.1) (by omega)
      rw [tut_ker _ es _ _ _ _ (Ker.joined hj)] at h8
      omega
    · rw [if_neg hj] at h6 ⊢
      have h8 := whole_sum es (glue R e.1 e.2) (t + 1) (r + 1) he' (hg.glue hee.1) (by omega)
      omega
theorem val_whole {n : Nat} {es : List (Nat × Nat)} (he : EdgesOk n es) (hn : 1 ≤ n) (hw : rkA es (fun x => x) + 1 = n) : valR 1 2 es (fun x => x) = ((sumN (ways (wholeA n) es fun x => x) (es.length + 1) : Nat) : Int) := by
  have h := whole_sum es (fun x => x) 0 0 he (good_start n) (start_cnt n)
  rw [sumN_congr (es.length + 1) fun k _ => ways_good hn es (fun x => x) k he (good_start n)] at h
  rw [← h]
  show tut _ es _ 0 0 = _
  rw [tut_leafR (leaf := valLeaf 1 2 (rkA es fun x => x)) (leaf' := wholeLeaf n) (c := 1) es _ 0 0 0 0 fun a b h h2 _ => by
    unfold valLeaf wholeLeaf
    rw [show (2 : Int) - 1 = 1 from rfl, powI_one, show (1 : Int) - 1 = 0 from rfl]
    by_cases hab : b = rkA es fun x => x
    · rw [if_pos (by omega), show rkA es (fun x => x) - (0 + b) = 0 by omega]; rfl
    · rw [if_neg (by omega), powI_zero (by omega)]; rfl]
  omega
/-- The order of the edges does not matter. -/
theorem valR_rev (x y : Int) : ∀ (es : List (Nat × Nat)) (R : Nat → Nat), valR x y es.reverse R = valR x y es R
  | [], _ => rfl
  | e :: es, R => by
    rw [List.reverse_cons, valR_move, List.append_nil]
    have h : rkA (e :: es.reverse) R = rkA (e :: es) R := by
      have : ∀ (l : List (Nat × Nat)) (R : Nat → Nat), rkA l.reverse R = rkA l R := by
        intro l
        induction l with
        | nil => exact fun _ => rfl
        | cons f l ih => intro R; rw [List.reverse_cons, rkA_move, List.append_nil]; exact rkA_cons_congr ih f R
      exact rkA_cons_congr (this es) e R
    have h2 : ∀ (leaf : Nat → Nat → Int) (l : List (Nat × Nat)) (R : Nat → Nat) (t r : Nat), tut leaf l.reverse R t r = tut leaf l R t r := by
      intro leaf l
      induction l with
      | nil => exact fun _ _ _ => rfl
      | cons f l ih => intro R t r; rw [List.reverse_cons, tut_move, List.append_nil]; exact tut_congr leaf ih f R t r
    unfold valR
    rw [h, tut_congr _ (h2 _ es)]
end Go.Proofs.Ytdacfeebidhgnaa
