/- Plain facts: to where one comes along arrows, told by rows of sets that are joined over each node, and by truths that are handed on round by round. -/
import Derived.Test.YtdacfeebidhgnabVals
import Derived.Test.YtdacfeebidhgnabArr
namespace Go.Proofs.Ytdacfeebidhgnab
set_option maxRecDepth 100000

/-- One more node that one may come over. -/
def warR (q : Nat → Nat) (o f : Nat) : Nat := if (q f).testBit o = true then q f ||| q o else q f
def warK (q : Nat → Nat) : Nat → Nat → Nat
  | 0 => q
  | k + 1 => warR (warK q k) k
/-- Half way: the first f rows are done. -/
def warP (q : Nat → Nat) (o f : Nat) (x : Nat) : Nat := if x < f then warR q o x else q x
theorem warP_start (q : Nat → Nat) (o : Nat) : warP q o 0 = q := by funext x; unfold warP; rw [if_neg (by omega)]
theorem warP_over (q : Nat → Nat) (o f : Nat) : warP q o f o = q o := by
  unfold warP
  split
  · unfold warR; split
    · exact Nat.or_self _
    · rfl
  · rfl
theorem warP_at (q : Nat → Nat) (o f : Nat) : warP q o f f = q f := by unfold warP; rw [if_neg (by omega)]
theorem warP_hit {q : Nat → Nat} {o f : Nat} (h : (q f).testBit o = true) : upd (warP q o f) f (q f ||| q o) = warP q o (f + 1) := by
  funext x
  unfold upd warP
  by_cases hx : x = f
  · subst hx; rw [if_pos rfl, if_pos (by omega)]; unfold warR; rw [if_pos h]
  · rw [if_neg hx]
    by_cases h2 : x < f
    · rw [if_pos h2, if_pos (by omega)]
    · rw [if_neg h2, if_neg (by omega)]
theorem warP_miss {q : Nat → Nat} {o f : Nat} (h : (q f).testBit o = false) : warP q o f = warP q o (f + 1) := by
  funext x
  unfold warP
  by_cases hx : x = f
  · subst hx; rw [if_neg (by omega), if_pos (by omega)]; unfold warR; rw [if_neg (by rw [h]; simp)]
  · by_cases h2 : x < f
    · rw [if_pos h2, if_pos (by omega)]
    · rw [if_neg h2, if_neg (by omega)]
theorem warR_small {q : Nat → Nat} (h : ∀ v, q v < 128) (o v : Nat) : warR q o v < 128 := by
  unfold warR; split
  · exact Nat.or_lt_two_pow (n := 7) (h v) (h o)
  · exact h v
theorem warK_small {q : Nat → Nat} (h : ∀ v, q v < 128) : ∀ k v, warK q k v < 128
  | 0, v => h v
  | k + 1, v => warR_small (warK_small h k) k v
theorem warP_small {q : Nat → Nat} (h : ∀ v, q v < 128) (o f v : Nat) : warP q o f v < 128 := by
  unfold warP; split
  · exact warR_small h o v
  · exact h v
/-- From one node to another by one or more arrows, over the first k nodes only. -/
inductive Via (S : Nat → Nat → Prop) (k : Nat) : Nat → Nat → Prop
  | one {v u : Nat} : S v u → Via S k v u
  | over {v x u : Nat} : x < k → Via S k v x → Via S k x u → Via S k v u
theorem Via.mono {S : Nat → Nat → Prop} {k m v u : Nat} (h : Via S k v u) (hk : k ≤ m) : Via S m v u := by
  induction h with
  | one h => exact .one h
  | over hx _ _ ih1 ih2 => exact .over (by omega) ih1 ih2
theorem via_next {S : Nat → Nat → Prop} {k v u : Nat} (h : Via S (k + 1) v u) : Via S k v u ∨ (Via S k v k ∧ Via S k k u) := by
  induction h with
  | one h => exact .inl (.one h)
  | @over v x u hx _ _ ih1 ih2 =>
    by_cases e : x = k
    · subst e
      have h1 : Via S x v x := by
        rcases ih1 with h | h
        · exact h
        · exact h.1
      have h2 : Via S x x u := by
        rcases ih2 with h | h
        · exact h
        · exact h.2
      exact .inr ⟨h1, h2⟩
    · have hx' : x < k := by omega
      rcases ih1 with h1 | h1 <;> rcases ih2 with h2 | h2
      · exact .inl (.over hx' h1 h2)
      · exact .inr ⟨.over hx' h1 h2.1, h2.2⟩
      · exact .inr ⟨h1.1, .over hx' h1.2 h2⟩
      · exact .inr ⟨h1.1, h2.2⟩
theorem warK_via (q : Nat → Nat) : ∀ k v u, (warK q k v).testBit u = true ↔ Via (fun v u => (q v).testBit u = true) k v u
  | 0, v, u => by
    constructor
    · exact fun h => .one h
    · intro h
      cases h with
      | one h => exact h
      | over hx _ _ => omega
  | k + 1, v, u => by
    have h1 : (warK q (k + 1) v).testBit u = true ↔ (warK q k v).testBit u = true ∨ ((warK q k v).testBit k = true ∧ (warK q k k).testBit u = true) := by
      show (warR (warK q k) k v).testBit u = true ↔ _
      unfold warR
      by_cases hb : (warK q k v).testBit k = true
      · rw [if_pos hb, Nat.testBit_or, Bool.or_eq_true]; simp [hb]
      · rw [if_neg hb]; simp [hb]
    rw [h1, warK_via q k v u, warK_via q k v k, warK_via q k k u]
    constructor
    · rintro (h | ⟨h, h'⟩)
      · exact h.mono (by omega)
      · exact .over (show k < k + 1 by omega) (h.mono (by omega)) (h'.mono (by omega))
    · exact via_next
theorem Leads.trans {l : List (Nat × Nat)} {T : Nat → Bool} {x y z : Nat} (h1 : Leads l T x y) (h2 : Leads l T y z) : Leads l T x z := by
  induction h2 with
  | refl => exact h1
  | step _ he ih => exact ih.step he
theorem via_leads {l : List (Nat × Nat)} {T : Nat → Bool} {S : Nat → Nat → Prop} (hS : ∀ v u, S v u ↔ ∃ i e, l[i]? = some e ∧ frE e (T i) = v ∧ toE e (T i) = u) {k v u : Nat} (h : Via S k v u) : Leads l T v u := by
  induction h with
  | one h =>
    obtain ⟨i, e, he, h1, h2⟩ := (hS _ _).1 h
    rw [← h1, ← h2]
    exact Leads.refl.step he
  | over _ _ _ ih1 ih2 => exact ih1.trans ih2
theorem leads_via {l : List (Nat × Nat)} {T : Nat → Bool} {S : Nat → Nat → Prop} (hS : ∀ v u, S v u ↔ ∃ i e, l[i]? = some e ∧ frE e (T i) = v ∧ toE e (T i) = u) {k : Nat} (hk : ∀ i e, l[i]? = some e → frE e (T i) < k) {v u : Nat} (h : Leads l T v u) : v = u ∨ Via S k v u := by
  induction h with
  | refl => exact .inl rfl
  | step _ he ih =>
    refine .inr ?_
    have h1 := (hS _ _).2 ⟨_, _, he, rfl, rfl⟩
    rcases ih with ih | ih
    · rw [ih]; exact .one h1
    · exact .over (hk _ _ he) ih (.one h1)
/-- All arrows come back: told by the rows. -/
theorem tc_rows {n : Nat} (hn : n ≤ 6) {l : List (Nat × Nat)} (he : EdgesOk n l) (hlt : ∀ e ∈ l, e.1 < e.2) {T : Nat → Bool} {q : Nat → Nat} (hq : ∀ v u, (q v).testBit u = true ↔ ∃ i e, l[i]? = some e ∧ frE e (T i) = v ∧ toE e (T i) = u) :
    TcP (fun x => x) l T ↔ ∀ (k : Nat) (e : Nat × Nat), l[k]? = some e → (warK q 7 e.1).testBit e.2 = true ∧ (warK q 7 e.2).testBit e.1 = true := by
  rw [tc_leads]
  have hk : ∀ i e, l[i]? = some e → frE e (T i) < 7 := fun i e h => by have := (ends_range he h (T i)).1; omega
  constructor
  · intro h k e hke
    have h1 := h k e hke
    have hne := hlt e (List.mem_of_getElem? hke)
    have h2 : Via (fun v u => (q v).testBit u = true) 7 (frE e (T k)) (toE e (T k)) := .one ((hq _ _).2 ⟨k, e, hke, rfl, rfl⟩)
    have h3 := leads_via hq hk h1
    cases hT : T k with
    | false =>
      rw [hT] at h2 h3
      rcases h3 with h3 | h3
      · simp only [frE, toE, if_false, Bool.false_eq_true] at h3; omega
      · exact ⟨(warK_via q 7 _ _).2 h2, (warK_via q 7 _ _).2 h3⟩
    | true =>
      rw [hT] at h2 h3
      rcases h3 with h3 | h3
      · simp only [frE, toE, if_true] at h3; omega
      · exact ⟨(warK_via q 7 _ _).2 h3, (warK_via q 7 _ _).2 h2⟩
  · intro h k e hke
    obtain ⟨h1, h2⟩ := h k e hke
    cases hT : T k with
    | false => exact via_leads hq ((warK_via q 7 _ _).1 h2)
    | true => exact via_leads hq ((warK_via q 7 _ _).1 h1)
/-- What has been reached is handed on. -/
def HandL (l : List (Nat × Nat)) (T G : Nat → Bool) (j : Nat) : Prop := ∀ k e, k < j → l[k]? = some e → G (frE e (T k)) = true → G (toE e (T k)) = true
theorem hand_clos {l : List (Nat × Nat)} {T G : Nat → Bool} (h : HandL l T G l.length) : closL l T G := (closL_iff l T).2 fun k e he => h k e (List.getElem?_eq_some_iff.1 he).1 he
theorem setG_same {G : Nat → Bool} {k : Nat} (h : G k = true) : setG G k true = G := by
  funext i; unfold setG; split
  · rename_i e; rw [e, h]
  · rfl
/-- A round of handing on: either enough has been reached, or all is closed, or what is before j. -/
theorem hand_step {l : List (Nat × Nat)} {T G : Nat → Bool} {r m j : Nat} {e : Nat × Nat} (hC : r + 2 ≤ cntG G m ∨ closL l T G ∨ (r + 1 ≤ cntG G m ∧ HandL l T G j)) (he : l[j]? = some e) (h1 : 1 ≤ toE e (T j)) (h2 : toE e (T j) ≤ m) (hf : G (frE e (T j)) = true) :
    r + 2 ≤ cntG (setG G (toE e (T j)) true) m ∨ closL l T (setG G (toE e (T j)) true) ∨ (r + 1 ≤ cntG (setG G (toE e (T j)) true) m ∧ HandL l T (setG G (toE e (T j)) true) (j + 1)) := by
  cases h0 : G (toE e (T j)) with
  | true =>
    rw [setG_same h0]
    rcases hC with h | h | ⟨h, h'⟩
    · exact .inl h
    · exact .inr (.inl h)
    · refine .inr (.inr ⟨h, fun k f hk hkf => ?_⟩)
      by_cases e' : k = j
      · subst e'; rw [he] at hkf; obtain rfl := Option.some.inj hkf; exact fun _ => h0
      · exact h' k f (by omega) hkf
  | false =>
    rw [cntG_set h1 h0 m h2]
    rcases hC with h | h | ⟨h, _⟩
    · exact .inl (by omega)
    · have := (closL_iff l T).1 h j e he hf
      rw [h0] at this; cases this
    · exact .inl (by omega)
theorem hand_skip {l : List (Nat × Nat)} {T G : Nat → Bool} {r m j : Nat} {e : Nat × Nat} (hC : r + 2 ≤ cntG G m ∨ closL l T G ∨ (r + 1 ≤ cntG G m ∧ HandL l T G j)) (he : l[j]? = some e) (hf : G (frE e (T j)) = false) :
    r + 2 ≤ cntG G m ∨ closL l T G ∨ (r + 1 ≤ cntG G m ∧ HandL l T G (j + 1)) := by
  rcases hC with h | h | ⟨h, h'⟩
  · exact .inl h
  · exact .inr (.inl h)
  · refine .inr (.inr ⟨h, fun k f hk hkf => ?_⟩)
    by_cases e' : k = j
    · subst e'; rw [he] at hkf; obtain rfl := Option.some.inj hkf
      intro h3; rw [hf] at h3; cases h3
    · exact h' k f (by omega) hkf
/-- All that has been reached is led to. -/
def SoundG (l : List (Nat × Nat)) (T : Nat → Bool) (x : Nat) (G : Nat → Bool) : Prop := ∀ v, G v = true → Leads l T x v
theorem SoundG.set {l : List (Nat × Nat)} {T G : Nat → Bool} {x j : Nat} {e : Nat × Nat} (h : SoundG l T x G) (he : l[j]? = some e) (hf : G (frE e (T j)) = true) : SoundG l T x (setG G (toE e (T j)) true) := fun v hv => by
  unfold setG at hv
  by_cases e' : v = toE e (T j)
  · rw [e']; exact (h _ hf).step he
  · rw [if_neg e'] at hv; exact h v hv
noncomputable def leadsB (l : List (Nat × Nat)) (T : Nat → Bool) (x y : Nat) : Bool := @decide (Leads l T x y) (Classical.propDecidable _)
theorem leadsB_iff {l : List (Nat × Nat)} {T : Nat → Bool} {x y : Nat} : leadsB l T x y = true ↔ Leads l T x y := by unfold leadsB; exact @decide_eq_true_iff _ (Classical.propDecidable _)
theorem leadsB_is {l : List (Nat × Nat)} {T G : Nat → Bool} {x : Nat} (hs : SoundG l T x G) (hc : closL l T G) (hx : G x = true) (y : Nat) : G y = leadsB l T x y := by
  rw [Bool.eq_iff_iff, leadsB_iff]
  exact ⟨hs y, fun h => leads_in hc h hx⟩
theorem cntG_one {G : Nat → Bool} {x : Nat} (h1 : 1 ≤ x) (h : G x = true) : ∀ m, x ≤ m → 1 ≤ cntG G m
  | 0, h2 => by omega
  | m + 1, h2 => by
    simp only [cntG]
    by_cases e : x = m + 1
    · subst e; rw [if_pos h]; omega
    · have := cntG_one h1 h m (by omega); omega
end Go.Proofs.Ytdacfeebidhgnab
