/- Plain facts on arrows that all come back: no set of nodes that no arrow leaves is entered by one; they are counted by the value of 0 and 2. -/
import Derived.Test.YtdacfeebidhgnaaActs
namespace Go.Proofs.Ytdacfeebidhgnaa
set_option maxRecDepth 100000

/-- No arrow leaves the set. -/
def closL : List (Nat × Nat) → (Nat → Bool) → (Nat → Bool) → Prop
  | [], _, _ => True
  | e :: es, T, S => (if T 0 = true then (S e.2 = true → S e.1 = true) else (S e.1 = true → S e.2 = true)) ∧ closL es (fun i => T (i + 1)) S
def SubB (R : Nat → Nat) (S : Nat → Bool) : Prop := ∀ x y, R x = R y → S x = S y
/-- All arrows come back: a set that none leaves none enters. -/
def TcP (R : Nat → Nat) (es : List (Nat × Nat)) (T : Nat → Bool) : Prop := ∀ S, SubB R S → closL es T S → closL es (fun i => !T i) S
theorem closL_iff {S : Nat → Bool} : ∀ (l : List (Nat × Nat)) (T : Nat → Bool), closL l T S ↔ ∀ k e, l[k]? = some e → S (frE e (T k)) = true → S (toE e (T k)) = true
  | [], T => by simp [closL]
  | e :: l, T => by
    unfold closL
    rw [closL_iff l]
    constructor
    · rintro ⟨h1, h2⟩ k f hk
      cases k with
      | zero =>
        simp only [List.getElem?_cons_zero, Option.some.injEq] at hk
        subst hk
        unfold frE toE
        split
        · rename_i ht; rwa [if_pos ht] at h1
        · rename_i ht; rwa [if_neg ht] at h1
      | succ k => rw [List.getElem?_cons_succ] at hk; exact h2 k f hk
    · intro hh
      refine ⟨?_, fun k f hk => hh (k + 1) f (by rw [List.getElem?_cons_succ]; exact hk)⟩
      have := hh 0 e (by simp)
      unfold frE toE at this
      split
      · rename_i ht; rwa [if_pos ht, if_pos ht] at this
      · rename_i ht; rwa [if_neg ht, if_neg ht] at this
/-- Neither left nor entered: both ends alike. -/
theorem closL_both {S : Nat → Bool} : ∀ (l : List (Nat × Nat)) (T : Nat → Bool), closL l T S → closL l (fun i => !T i) S → ∀ f ∈ l, S f.1 = S f.2
  | [], _, _, _, f, h => by simp at h
  | e :: l, T, h1, h2, f, h => by
    rcases List.mem_cons.1 h with rfl | h
    · have a := h1.1
      have b := h2.1
      rw [Bool.eq_iff_iff]
      cases hT : T 0 <;> simp only [hT, Bool.not_false, Bool.not_true, if_true, Bool.false_eq_true, if_false] at a b
      · exact ⟨a, b⟩
      · exact ⟨b, a⟩
    · exact closL_both l _ h1.2 h2.2 f h
theorem same_least {es : List (Nat × Nat)} {R : Nat → Nat} {S : Nat → Bool} (h : SubB R S) (hf : ∀ f ∈ es, S f.1 = S f.2) {x y : Nat} (hx : allR es R x = allR es R y) : S x = S y := by
  have h1 : Sub R fun x => if S x = true then 1 else 0 := fun x y h' => by show (if S x = true then 1 else 0) = if S y = true then 1 else 0; rw [h x y h']
  have h2 := allR_least es h1 (fun f hf' => by show (if S f.1 = true then 1 else 0) = if S f.2 = true then 1 else 0; rw [hf f hf']) x y hx
  have h3 : (if S x = true then 1 else 0) = if S y = true then 1 else 0 := h2
  cases hx : S x <;> cases hy : S y <;> simp [hx, hy] at h3 <;> rfl
theorem closL_same {S : Nat → Bool} : ∀ (l : List (Nat × Nat)) (T : Nat → Bool), (∀ f ∈ l, S f.1 = S f.2) → closL l T S
  | [], _, _ => trivial
  | e :: l, T, h => ⟨by have := h e (by simp); rw [this]; split <;> exact id, closL_same l _ fun f hf => h f (by simp [hf])⟩
theorem closL_or {S S' : Nat → Bool} : ∀ (l : List (Nat × Nat)) (T : Nat → Bool), closL l T S → closL l T S' → closL l T fun x => S x || S' x
  | [], _, _, _ => trivial
  | e :: l, T, h, h' => by
    refine ⟨?_, closL_or l _ h.2 h'.2⟩
    have a := h.1
    have b := h'.1
    by_cases hT : T 0 = true
    · rw [if_pos hT] at a b ⊢
      simp only [Bool.or_eq_true]
      exact Or.imp a b
    · rw [if_neg hT] at a b ⊢
      simp only [Bool.or_eq_true]
      exact Or.imp a b
theorem closL_and {S S' : Nat → Bool} : ∀ (l : List (Nat × Nat)) (T : Nat → Bool), closL l T S → closL l T S' → closL l T fun x => S x && S' x
  | [], _, _, _ => trivial
  | e :: l, T, h, h' => by
    refine ⟨?_, closL_and l _ h.2 h'.2⟩
    have a := h.1
    have b := h'.1
    by_cases hT : T 0 = true
    · rw [if_pos hT] at a b ⊢
      simp only [Bool.and_eq_true]
      exact And.imp a b
    · rw [if_neg hT] at a b ⊢
      simp only [Bool.and_eq_true]
      exact And.imp a b
theorem closL_ring {S S' : Nat → Bool} : ∀ (l : List (Nat × Nat)) (T : Nat → Bool), closL l T S' → closL l (fun i => !T i) (fun x => S x || S' x) → closL l (fun i => !T i) (fun x => S x && S' x) → closL l (fun i => !T i) S
  | [], _, _, _, _ => trivial
  | e :: l, T, h1, h2, h3 => by
    refine ⟨?_, closL_ring l _ h1.2 h2.2 h3.2⟩
    have a := h1.1
    have b := h2.1
    have c := h3.1
    cases hT : T 0 <;> simp only [hT, Bool.not_false, Bool.not_true, if_true, Bool.false_eq_true, if_false, Bool.or_eq_true, Bool.and_eq_true] at a b c ⊢
    · intro h
      rcases b (.inl h) with h' | h'
      · exact h'
      · exact (c ⟨h, a h'⟩).1
    · intro h
      rcases b (.inl h) with h' | h'
      · exact h'
      · exact (c ⟨h, a h'⟩).1
theorem SubB.glue {R : Nat → Nat} {S : Nat → Bool} (h : SubB R S) {a b : Nat} (hab : S a = S b) : SubB (Go.Proofs.Ytdacfeebidhgnaa.glue R a b) S := fun x y hxy => by
  rcases (glue_eq R a b x y).1 hxy with h1 | ⟨h1, h2⟩
  · exact h x y h1
  · have e1 : S x = S a := by
      rcases h1 with h1 | h1
      · exact h _ _ h1
      · rw [h _ _ h1, hab]
    have e2 : S y = S a := by
      rcases h2 with h2 | h2
      · exact h _ _ h2
      · rw [h _ _ h2, hab]
    rw [e1, e2]
theorem SubB.of_glue {R : Nat → Nat} {S : Nat → Bool} {a b : Nat} (h : SubB (Go.Proofs.Ytdacfeebidhgnaa.glue R a b) S) : SubB R S ∧ S a = S b :=
  ⟨fun x y hxy => h x y (glue_kept hxy _ _), h _ _ (by rw [glue_self, glue_other])⟩
theorem tc_ker {R R' : Nat → Nat} (h : Ker R R') (es : List (Nat × Nat)) (T : Nat → Bool) : TcP R es T ↔ TcP R' es T :=
  ⟨fun hh S hs => hh S fun x y e => hs x y ((h x y).1 e), fun hh S hs => hh S fun x y e => hs x y ((h x y).2 e)⟩
theorem tc_loop {R : Nat → Nat} {e : Nat × Nat} (he : R e.1 = R e.2) (es : List (Nat × Nat)) (T : Nat → Bool) : TcP R (e :: es) T ↔ TcP R es fun i => T (i + 1) := by
  constructor
  · intro h S hs hc
    refine (h S hs ⟨?_, hc⟩).2
    rw [hs _ _ he]; split <;> exact id
  · intro h S hs hc
    refine ⟨?_, h S hs hc.2⟩
    rw [hs _ _ he]; split <;> exact id
theorem tc_bridge {R : Nat → Nat} {e : Nat × Nat} {es : List (Nat × Nat)} (he : allR es R e.1 ≠ allR es R e.2) (T : Nat → Bool) : ¬ TcP R (e :: es) T := fun h => by
  cases hT : T 0 with
  | false =>
    have := h (fun x => decide (allR es R x = allR es R e.2)) (fun x y h' => by show decide _ = decide _; rw [allR_sub es R x y h']) ⟨by
      rw [hT]; simp, closL_same es _ fun f hf => by show decide _ = decide _; rw [allR_has es R f hf]⟩
    have := this.1
    simp only [hT, Bool.not_false, if_true, decide_eq_true_eq, forall_const] at this
    exact he this
  | true =>
    have := h (fun x => decide (allR es R x = allR es R e.1)) (fun x y h' => by show decide _ = decide _; rw [allR_sub es R x y h']) ⟨by
      rw [hT]; simp, closL_same es _ fun f hf => by show decide _ = decide _; rw [allR_has es R f hf]⟩
    have := this.1
    simp only [hT, Bool.not_true, Bool.false_eq_true, if_false, decide_eq_true_eq, forall_const] at this
    exact he this.symm
/-- With the arrow either way. -/
def preT (b : Bool) (T : Nat → Bool) (i : Nat) : Bool := if i = 0 then b else T (i - 1)
theorem preT_zero (b : Bool) (T : Nat → Bool) : preT b T 0 = b := rfl
theorem preT_succ (b : Bool) (T : Nat → Bool) : (fun i => preT b T (i + 1)) = T := by funext i; simp [preT]
theorem clos_off {e : Nat × Nat} {es : List (Nat × Nat)} {T S : Nat → Bool} : closL (e :: es) (preT false T) S ↔ (S e.1 = true → S e.2 = true) ∧ closL es T S := by
  show ((if preT false T 0 = true then (S e.2 = true → S e.1 = true) else (S e.1 = true → S e.2 = true)) ∧ closL es (fun i => preT false T (i + 1)) S) ↔ _
  rw [preT_succ, preT_zero]; simp
theorem clos_on {e : Nat × Nat} {es : List (Nat × Nat)} {T S : Nat → Bool} : closL (e :: es) (preT true T) S ↔ (S e.2 = true → S e.1 = true) ∧ closL es T S := by
  show ((if preT true T 0 = true then (S e.2 = true → S e.1 = true) else (S e.1 = true → S e.2 = true)) ∧ closL es (fun i => preT true T (i + 1)) S) ↔ _
  rw [preT_succ, preT_zero]; simp
theorem preT_not (b : Bool) (T : Nat → Bool) : (fun i => !preT b T i) = preT (!b) fun i => !T i := by
  funext i; unfold preT; split <;> rfl
theorem tc_offP {R : Nat → Nat} {e : Nat × Nat} {es : List (Nat × Nat)} {T : Nat → Bool} : TcP R (e :: es) (preT false T) ↔ ∀ S, SubB R S → (S e.1 = true → S e.2 = true) → closL es T S → (S e.2 = true → S e.1 = true) ∧ closL es (fun i => !T i) S := by
  unfold TcP
  rw [preT_not]
  simp only [clos_off, Bool.not_false, clos_on]
  exact ⟨fun h S a b c => h S a ⟨b, c⟩, fun h S a b => h S a b.1 b.2⟩
theorem tc_onP {R : Nat → Nat} {e : Nat × Nat} {es : List (Nat × Nat)} {T : Nat → Bool} : TcP R (e :: es) (preT true T) ↔ ∀ S, SubB R S → (S e.2 = true → S e.1 = true) → closL es T S → (S e.1 = true → S e.2 = true) ∧ closL es (fun i => !T i) S := by
  unfold TcP
  rw [preT_not]
  simp only [clos_off, Bool.not_true, clos_on]
  exact ⟨fun h S a b c => h S a ⟨b, c⟩, fun h S a b => h S a b.1 b.2⟩
theorem tc_and {R : Nat → Nat} {e : Nat × Nat} {es : List (Nat × Nat)} {T : Nat → Bool} (he : allR es R e.1 = allR es R e.2) : (TcP R (e :: es) (preT false T) ∧ TcP R (e :: es) (preT true T)) ↔ TcP R es T := by
  rw [tc_offP, tc_onP]
  constructor
  · rintro ⟨h1, h2⟩ S hs hc
    by_cases h : S e.1 = true → S e.2 = true
    · exact (h1 S hs h hc).2
    · exact (h2 S hs (fun h' => absurd (fun _ => h') h) hc).2
  · intro h
    have hh : ∀ S, SubB R S → closL es T S → S e.1 = S e.2 := fun S hs hc => same_least hs (closL_both es T hc (h S hs hc)) he
    exact ⟨fun S hs _ hc => ⟨by rw [hh S hs hc]; exact id, h S hs hc⟩, fun S hs _ hc => ⟨by rw [hh S hs hc]; exact id, h S hs hc⟩⟩
theorem tc_or {R : Nat → Nat} {e : Nat × Nat} {es : List (Nat × Nat)} {T : Nat → Bool} (he : allR es R e.1 = allR es R e.2) : (TcP R (e :: es) (preT false T) ∨ TcP R (e :: es) (preT true T)) ↔ TcP (glue R e.1 e.2) es T := by
  rw [tc_offP, tc_onP]
  constructor
  · rintro (h | h) S hs hc
    · exact (h S hs.of_glue.1 (by rw [hs.of_glue.2]; exact id) hc).2
    · exact (h S hs.of_glue.1 (by rw [hs.of_glue.2]; exact id) hc).2
  · intro h
    refine Classical.byContradiction fun hn => ?_
    obtain ⟨n1, n2⟩ := not_or.1 hn
    obtain ⟨S, hs, h1, hc, hne⟩ : ∃ S, SubB R S ∧ (S e.1 = true → S e.2 = true) ∧ closL es T S ∧ ¬ ((S e.2 = true → S e.1 = true) ∧ closL es (fun i => !T i) S) :=
      Classical.byContradiction fun hx => n1 fun S a b c => Classical.byContradiction fun hy => hx ⟨S, a, b, c, hy⟩
    obtain ⟨S', hs', h1', hc', hne'⟩ : ∃ S, SubB R S ∧ (S e.2 = true → S e.1 = true) ∧ closL es T S ∧ ¬ ((S e.1 = true → S e.2 = true) ∧ closL es (fun i => !T i) S) :=
      Classical.byContradiction fun hx => n2 fun S a b c => Classical.byContradiction fun hy => hx ⟨S, a, b, c, hy⟩
    have d1 : S e.1 ≠ S e.2 := fun hh => hne ⟨by rw [hh]; exact id, h S (hs.glue hh) hc⟩
    have d2 : S' e.1 ≠ S' e.2 := fun hh => hne' ⟨by rw [hh]; exact id, h S' (hs'.glue hh) hc'⟩
    have a1 : S e.1 = false ∧ S e.2 = true := by
      cases x : S e.1 <;> cases y : S e.2 <;> simp [x, y] at d1 h1 ⊢
    have a2 : S' e.1 = true ∧ S' e.2 = false := by
      cases x : S' e.1 <;> cases y : S' e.2 <;> simp [x, y] at d2 h1' ⊢
    have b1 := h (fun x => S x || S' x) (SubB.glue (fun x y hxy => by show (S x || S' x) = (S y || S' y); rw [hs x y hxy, hs' x y hxy]) (by show (S e.1 || S' e.1) = (S e.2 || S' e.2); rw [a1.1, a1.2, a2.1, a2.2]; rfl)) (closL_or es T hc hc')
    have b2 := h (fun x => S x && S' x) (SubB.glue (fun x y hxy => by show (S x && S' x) = (S y && S' y); rw [hs x y hxy, hs' x y hxy]) (by show (S e.1 && S' e.1) = (S e.2 && S' e.2); rw [a1.1, a1.2, a2.1, a2.2]; rfl)) (closL_and es T hc hc')
    exact d1 (same_least hs (closL_both es T hc (closL_ring es T hc' b1 b2)) he)
noncomputable def tcB (R : Nat → Nat) (es : List (Nat × Nat)) (T : Nat → Bool) : Bool := @decide (TcP R es T) (Classical.propDecidable _)
theorem tcB_iff {R : Nat → Nat} {es : List (Nat × Nat)} {T : Nat → Bool} : tcB R es T = true ↔ TcP R es T := by unfold tcB; exact @decide_eq_true_iff _ (Classical.propDecidable _)
/-- In how many ways all arrows come back. -/
noncomputable def tcN (R : Nat → Nat) (es : List (Nat × Nat)) : Nat := (List.range (2 ^ es.length)).countP fun s => tcB R es fun i => s.testBit i
theorem pre_even (s : Nat) : (fun i => (2 * s).testBit i) = preT false fun i => s.testBit i := by
  funext i
  cases i with
  | zero => exact first_even s
  | succ i => rw [bit_even]; simp [preT]
theorem pre_odd (s : Nat) : (fun i => (2 * s + 1).testBit i) = preT true fun i => s.testBit i := by
  funext i
  cases i with
  | zero => exact first_odd s
  | succ i => rw [bit_odd]; simp [preT]
theorem tcN_split (R : Nat → Nat) (e : Nat × Nat) (es : List (Nat × Nat)) : tcN R (e :: es) = (List.range (2 ^ es.length)).countP (fun s => tcB R (e :: es) (preT false fun i => s.testBit i)) + (List.range (2 ^ es.length)).countP (fun s => tcB R (e :: es) (preT true fun i => s.testBit i)) := by
  unfold tcN
  rw [List.length_cons, Nat.pow_succ, Nat.mul_comm, countP_double]
  simp only [pre_even, pre_odd]
theorem tcN_loop {R : Nat → Nat} {e : Nat × Nat} (es : List (Nat × Nat)) (h : R e.1 = R e.2) : tcN R (e :: es) = 2 * tcN R es := by
  rw [tcN_split, Nat.two_mul]
  unfold tcN
  congr 1
  · refine countP_same fun s _ => ?_
    rw [Bool.eq_iff_iff, tcB_iff, tcB_iff, tc_loop h, preT_succ]
  · refine countP_same fun s _ => ?_
    rw [Bool.eq_iff_iff, tcB_iff, tcB_iff, tc_loop h, preT_succ]
theorem tcN_bridge {R : Nat → Nat} {e : Nat × Nat} {es : List (Nat × Nat)} (h : allR es R e.1 ≠ allR es R e.2) : tcN R (e :: es) = 0 := by
  unfold tcN
  rw [List.countP_eq_zero]
  intro s _ hh
  exact tc_bridge h _ (tcB_iff.1 hh)
theorem tcN_both {R : Nat → Nat} {e : Nat × Nat} {es : List (Nat × Nat)} (h : allR es R e.1 = allR es R e.2) : tcN R (e :: es) = tcN R es + tcN (glue R e.1 e.2) es := by
  rw [tcN_split, Nat.add_comm (tcN R es)]
  unfold tcN
  refine countP_duo fun s _ => ?_
  refine four_way ?_ ?_
  · rw [tcB_iff, tcB_iff, tcB_iff, tc_and h]
  · rw [tcB_iff, tcB_iff, tcB_iff, tc_or h]
theorem tcN_val : ∀ (es : List (Nat × Nat)) (R : Nat → Nat), (tcN R es : Int) = edgeV 0 2 es R
  | [], R => by
    have h : tcB R [] (fun i => Nat.testBit 0 i) = true := tcB_iff.2 fun S _ _ => trivial
    unfold tcN
    simp only [List.length_nil, Nat.pow_zero, List.range_one, List.countP_cons, List.countP_nil, h, if_true, edgeV]; rfl
  | e :: es, R => by
    simp only [edgeV]
    rw [← tcN_val es R, ← tcN_val es (glue R e.1 e.2)]
    by_cases h : R e.1 = R e.2
    · rw [if_pos h, tcN_loop es h]; omega
    · rw [if_neg h]
      by_cases h2 : allR es R e.1 = allR es R e.2
      · rw [if_pos h2, tcN_both h2]; omega
      · rw [if_neg h2, tcN_bridge h2]; omega
/-- No edge alone joins two pieces. -/
def NoBr (es : List (Nat × Nat)) (R : Nat → Nat) : Prop := ∀ l1 e l2, es = l1 ++ e :: l2 → allR (l1 ++ l2) R e.1 = allR (l1 ++ l2) R e.2
theorem tcN_some : ∀ (es : List (Nat × Nat)) (R : Nat → Nat), NoBr es R → 0 < tcN R es
  | [], R, _ => by have := tcN_val [] R; simp only [edgeV] at this; omega
  | e :: es, R, h => by
    by_cases hr : R e.1 = R e.2
    · have := tcN_some es R fun l1 f l2 hl => (allR_ker (l1 ++ l2) (Ker.joined hr) _ _).1 (h (e :: l1) f l2 (by rw [hl]; rfl))
      rw [tcN_loop es hr]; omega
    · have h2 : allR es R e.1 = allR es R e.2 := h [] e es rfl
      have := tcN_some es (glue R e.1 e.2) fun l1 f l2 hl => h (e :: l1) f l2 (by rw [hl]; rfl)
      rw [tcN_both h2]; omega
theorem tcN_none {l1 l2 : List (Nat × Nat)} {e : Nat × Nat} {R : Nat → Nat} (h : allR (l1 ++ l2) R e.1 ≠ allR (l1 ++ l2) R e.2) : tcN R (l1 ++ e :: l2) = 0 := by
  have h1 := tcN_val (l1 ++ e :: l2) R
  rw [edge_val, valR_move, valR_bridge 0 2 h] at h1
  omega
/-- Arrows that never come back do not all come back. -/
theorem tc_acy {es : List (Nat × Nat)} (h0 : 0 < es.length) {R : Nat → Nat} {T : Nat → Bool} (h : TcP R es T) : ¬ Rkd R es T := by
  rintro ⟨f, hs, hr⟩
  obtain ⟨e, he⟩ : ∃ e, es[0]? = some e := ⟨_, List.getElem?_eq_getElem h0⟩
  have h1 := (rises_iff es T).1 hr
  have h2 := h (fun x => decide (f (toE e (T 0)) ≤ f x)) (fun x y hxy => by show decide _ = decide _; rw [hs x y hxy]) ((closL_iff es T).2 fun k g hk hg => by
    have := h1 k g hk
    simp only [decide_eq_true_eq] at hg ⊢
    omega)
  have h3 := (closL_iff es _).1 h2 0 e he
  have h4 := h1 0 e he
  cases hT : T 0 <;> simp only [hT, frE, toE, Bool.not_true, Bool.not_false, if_true, Bool.false_eq_true, if_false, decide_eq_true_eq, Nat.le_refl, forall_const] at h3 h4 <;> omega
theorem countP_apart {p q : Nat → Bool} : ∀ n, (∀ s, p s = true → q s = true → False) → (List.range n).countP p + (List.range n).countP q ≤ n
  | 0, _ => by simp
  | n + 1, h => by
    have := countP_apart n h
    rw [List.range_succ, List.countP_append, List.countP_append]
    simp only [List.countP_cons, List.countP_nil]
    have := h n
    cases hp : p n <;> cases hq : q n <;> simp [hp, hq] at this ⊢ <;> omega
theorem tc_le {es : List (Nat × Nat)} (h0 : 0 < es.length) (R : Nat → Nat) : tcN R es + acyN R es ≤ 2 ^ es.length := by
  unfold tcN acyN
  exact countP_apart _ fun s h1 h2 => tc_acy h0 (tcB_iff.1 h1) (rkB_iff.1 h2)
/-- From one node to another along arrows. -/
inductive Leads (l : List (Nat × Nat)) (T : Nat → Bool) (x : Nat) : Nat → Prop
  | refl : Leads l T x x
  | step {k : Nat} {e : Nat × Nat} : Leads l T x (frE e (T k)) → l[k]? = some e → Leads l T x (toE e (T k))
theorem leads_in {l : List (Nat × Nat)} {T S : Nat → Bool} (hc : closL l T S) {x y : Nat} (h : Leads l T x y) (hx : S x = true) : S y = true := by
  induction h with
  | refl => exact hx
  | step _ he ih => exact (closL_iff l T).1 hc _ _ he ih
theorem tc_leads {l : List (Nat × Nat)} {T : Nat → Bool} : TcP (fun x => x) l T ↔ ∀ k e, l[k]? = some e → Leads l T (toE e (T k)) (frE e (T k)) := by
  constructor
  · intro h k e he
    have h1 := h (fun y => @decide (Leads l T (toE e (T k)) y) (Classical.propDecidable _)) (fun x y hxy => by rw [show x = y from hxy]) ((closL_iff l T).2 fun i f hi hf => by
      simp only [decide_eq_true_eq] at hf ⊢
      exact hf.step hi)
    have h2 := (closL_iff l _).1 h1 k e he
    have h3 : frE e (!T k) = toE e (T k) := by cases T k <;> rfl
    have h4 : toE e (!T k) = frE e (T k) := by cases T k <;> rfl
    rw [h3, h4] at h2
    simp only [decide_eq_true_eq] at h2
    exact h2 .refl
  · intro h S _ hc
    refine (closL_iff l _).2 fun k e he => ?_
    have h3 : frE e (!T k) = toE e (T k) := by cases T k <;> rfl
    have h4 : toE e (!T k) = frE e (T k) := by cases T k <;> rfl
    rw [h3, h4]
    exact leads_in hc (h k e he)
end Go.Proofs.Ytdacfeebidhgnaa
