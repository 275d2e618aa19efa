/- Plain facts on arrows that lead back: what is told by taking nodes away to which no arrows lead, or from which none lead. -/
import Derived.Test.YtgacgaidlbkkmaaFlows
import Derived.Test.YtgacgaidlbkkmaaCounts5
namespace Go.Proofs.Ytgacgaidlbkkmaa
set_option maxRecDepth 100000

/-- Where the arrow of an edge begins, and where it ends. -/
def frE (e : Nat × Nat) (t : Bool) : Nat := if t = true then e.2 else e.1
def toE (e : Nat × Nat) (t : Bool) : Nat := if t = true then e.1 else e.2
theorem rises_iff {h : Nat → Nat} : ∀ (l : List (Nat × Nat)) (T : Nat → Bool), risesL l T h ↔ ∀ k e, l[k]? = some e → h (frE e (T k)) < h (toE e (T k))
  | [], T => by simp [risesL]
  | e :: l, T => by
    unfold risesL
    rw [rises_iff l]
    constructor
    · rintro ⟨h1, h2⟩ k f hk
      cases k with
      | zero =>
        simp only [List.getElem?_cons_zero, Option.some.injEq] at hk
        subst hk
        unfold frE toE
        split
        · rename_i ht; rwa [if_pos ht] at h1
        · rename_i ht; rwa [if_neg ht] at h1
      | succ k => rw [List.getElem?_cons_succ] at hk; exact h2 k f hk
    · intro hh
      refine ⟨?_, fun k f hk => hh (k + 1) f (by rw [List.getElem?_cons_succ]; exact hk)⟩
      have := hh 0 e (by simp)
      unfold frE toE at this
      split
      · rename_i ht; rwa [if_pos ht, if_pos ht] at this
      · rename_i ht; rwa [if_neg ht, if_neg ht] at this
theorem rkd_id {l : List (Nat × Nat)} {T : Nat → Bool} : Rkd (fun x => x) l T ↔ ∃ h : Nat → Nat, ∀ k e, l[k]? = some e → h (frE e (T k)) < h (toE e (T k)) := by
  constructor
  · rintro ⟨h, _, r⟩; exact ⟨h, (rises_iff l T).1 r⟩
  · rintro ⟨h, r⟩; exact ⟨h, fun x y e => congrArg h (show x = y from e), (rises_iff l T).2 r⟩
/-- One comes back. -/
noncomputable def backV (l : List (Nat × Nat)) (s : Nat) : Bool := !rkB (fun x => x) l fun i => s.testBit i
theorem backV_iff {l : List (Nat × Nat)} {s : Nat} : backV l s = false ↔ ∃ h : Nat → Nat, ∀ k e, l[k]? = some e → h (frE e (s.testBit k)) < h (toE e (s.testBit k)) := by
  unfold backV
  rw [Bool.not_eq_false', rkB_iff, rkd_id]
/-- All nodes taken away have numbers that rise along the arrows to them. -/
def InvG (l : List (Nat × Nat)) (T G : Nat → Bool) : Prop := ∃ (h : Nat → Nat) (b : Nat), (∀ x, G x = true → h x < b) ∧ ∀ k e, l[k]? = some e → G (toE e (T k)) = true → G (frE e (T k)) = true ∧ h (frE e (T k)) < h (toE e (T k))
/-- An arrow leads to j from a node that is not taken away, among the first k. -/
def inG (l : List (Nat × Nat)) (T G : Nat → Bool) (j k : Nat) : Bool := (List.range k).any fun i => match l[i]? with | some e => decide (toE e (T i) = j) && !G (frE e (T i)) | none => false
theorem inG_next {l : List (Nat × Nat)} {T G : Nat → Bool} {j k : Nat} {e : Nat × Nat} (h : l[k]? = some e) : inG l T G j (k + 1) = (inG l T G j k || (decide (toE e (T k) = j) && !G (frE e (T k)))) := by
  unfold inG
  rw [List.range_succ, List.any_append]
  simp only [List.any_cons, List.any_nil, Bool.or_false, h]
theorem inG_iff {l : List (Nat × Nat)} {T G : Nat → Bool} {j : Nat} : inG l T G j l.length = true ↔ ∃ k e, l[k]? = some e ∧ toE e (T k) = j ∧ G (frE e (T k)) = false := by
  unfold inG
  rw [List.any_eq_true]
  constructor
  · rintro ⟨k, hk, h⟩
    obtain ⟨e, he⟩ : ∃ e, l[k]? = some e := ⟨_, List.getElem?_eq_getElem (List.mem_range.1 hk)⟩
    rw [he] at h
    simp only [Bool.and_eq_true, decide_eq_true_eq, Bool.not_eq_true'] at h
    exact ⟨k, e, he, h.1, h.2⟩
  · rintro ⟨k, e, he, h1, h2⟩
    refine ⟨k, List.mem_range.2 (List.getElem?_eq_some_iff.1 he).1, ?_⟩
    rw [he]
    simp [h1, h2]
/-- To each node before j that is not taken away an arrow leads from another one. -/
def StabG (l : List (Nat × Nat)) (T G : Nat → Bool) (j : Nat) : Prop := ∀ v, 1 ≤ v → v < j → G v = false → inG l T G v l.length = true
def cntG (G : Nat → Bool) : Nat → Nat
  | 0 => 0
  | k + 1 => cntG G k + if G (k + 1) = true then 1 else 0
def setG (G : Nat → Bool) (k : Nat) (v : Bool) (i : Nat) : Bool := if i = k then v else G i
theorem cntG_le (G : Nat → Bool) : ∀ k, cntG G k ≤ k
  | 0 => Nat.le_refl _
  | k + 1 => by have := cntG_le G k; simp only [cntG]; split <;> omega
theorem cntG_congr {G H : Nat → Bool} : ∀ k, (∀ v, 1 ≤ v → v ≤ k → G v = H v) → cntG G k = cntG H k
  | 0, _ => rfl
  | k + 1, h => by simp only [cntG, cntG_congr k (fun v h1 h2 => h v h1 (by omega)), h (k + 1) (by omega) (by omega)]
theorem cntG_set {G : Nat → Bool} {j : Nat} (hj : 1 ≤ j) (h0 : G j = false) : ∀ k, j ≤ k → cntG (setG G j true) k = cntG G k + 1
  | 0, h => by omega
  | k + 1, h => by
    simp only [cntG]
    by_cases e : j = k + 1
    · subst e
      rw [cntG_congr (G := setG G (k + 1) true) (H := G) k fun v _ h2 => by unfold setG; rw [if_neg (by omega)]]
      simp [setG, h0]
    · rw [cntG_set hj h0 k (by omega)]
      have : setG G j true (k + 1) = G (k + 1) := by unfold setG; rw [if_neg (fun h => e h.symm)]
      rw [this]; omega
theorem cntG_all {G : Nat → Bool} : ∀ k, k ≤ cntG G k → ∀ v, 1 ≤ v → v ≤ k → G v = true
  | 0, _, v, h1, h2 => by omega
  | k + 1, h, v, h1, h2 => by
    simp only [cntG] at h
    have := cntG_le G k
    by_cases e : v = k + 1
    · subst e
      by_cases hv : G (k + 1) = true
      · exact hv
      · rw [if_neg hv] at h; omega
    · refine cntG_all k ?_ v h1 (by omega)
      split at h <;> omega
theorem InvG.start (l : List (Nat × Nat)) (T : Nat → Bool) : InvG l T fun _ => false := ⟨fun _ => 0, 0, fun _ h => by simp at h, fun _ _ _ h => by simp at h⟩
theorem InvG.set {l : List (Nat × Nat)} {T G : Nat → Bool} {j : Nat} (h : InvG l T G) (h0 : G j = false) (hin : inG l T G j l.length = false) : InvG l T (setG G j true) := by
  obtain ⟨f, b, h1, h2⟩ := h
  have hno : ∀ k e, l[k]? = some e → toE e (T k) = j → G (frE e (T k)) = true := fun k e he ht => by
    cases hg : G (frE e (T k)) with
    | true => rfl
    | false => rw [inG_iff.2 ⟨k, e, he, ht, hg⟩] at hin; cases hin
  refine ⟨fun x => if x = j then b else f x, b + 1, fun x hx => ?_, fun k e he ht => ?_⟩
  · show (if x = j then b else f x) < b + 1
    by_cases e : x = j
    · rw [if_pos e]; omega
    · unfold setG at hx; rw [if_neg e] at hx
      have := h1 x hx
      rw [if_neg e]; omega
  · by_cases ej : toE e (T k) = j
    · have hg := hno k e he ej
      have hne : frE e (T k) ≠ j := fun e' => by rw [e', h0] at hg; cases hg
      refine ⟨by unfold setG; rw [if_neg hne]; exact hg, ?_⟩
      show (if frE e (T k) = j then b else f (frE e (T k))) < if toE e (T k) = j then b else f (toE e (T k))
      rw [if_neg hne, if_pos ej]; exact h1 _ hg
    · unfold setG at ht
      rw [if_neg ej] at ht
      obtain ⟨h3, h4⟩ := h2 k e he ht
      have hne : frE e (T k) ≠ j := fun e' => by rw [e', h0] at h3; cases h3
      refine ⟨by unfold setG; rw [if_neg hne]; exact h3, ?_⟩
      show (if frE e (T k) = j then b else f (frE e (T k))) < if toE e (T k) = j then b else f (toE e (T k))
      rw [if_neg hne, if_neg ej]; exact h4
theorem StabG.set {l : List (Nat × Nat)} {T G : Nat → Bool} {j : Nat} (h : StabG l T G j) (hj : G j = true ∨ inG l T G j l.length = true) : StabG l T G (j + 1) := fun v h1 h2 h3 => by
  by_cases e : v = j
  · subst e
    rcases hj with hj | hj
    · rw [hj] at h3; cases h3
    · exact hj
  · exact h v h1 (by omega) h3
theorem ends_range {n : Nat} {l : List (Nat × Nat)} (he : EdgesOk n l) {k : Nat} {e : Nat × Nat} (h : l[k]? = some e) (t : Bool) : (1 ≤ frE e t ∧ frE e t ≤ n) ∧ 1 ≤ toE e t ∧ toE e t ≤ n := by
  have := he e (List.mem_of_getElem? h)
  unfold frE toE
  split <;> omega
/-- A node that is left when nothing can be taken away any more: one comes back. -/
theorem stab_back {n : Nat} {l : List (Nat × Nat)} (he : EdgesOk n l) {s : Nat} {G : Nat → Bool} (h : StabG l (fun i => s.testBit i) G (n + 1)) {v : Nat} (h1 : 1 ≤ v) (h2 : v ≤ n) (h3 : G v = false) : backV l s = true := by
  rw [← Bool.not_eq_false, backV_iff]
  rintro ⟨f, hf⟩
  have : ∀ m v, f v < m → 1 ≤ v → v ≤ n → G v = false → False := by
    intro m
    induction m with
    | zero => intro v h; omega
    | succ m ih =>
      intro v hv h1 h2 h3
      obtain ⟨k, e, hk, ht, hg⟩ := inG_iff.1 (h v h1 (by omega) h3)
      have h4 := hf k e hk
      have h5 := ends_range he hk (s.testBit k)
      rw [ht] at h4
      exact ih _ (by omega) h5.1.1 h5.1.2 hg
  exact this (f v + 1) v (by omega) h1 h2 h3
theorem all_gone {n : Nat} {l : List (Nat × Nat)} (he : EdgesOk n l) {s : Nat} {G : Nat → Bool} (h : InvG l (fun i => s.testBit i) G) (hall : ∀ v, 1 ≤ v → v ≤ n → G v = true) : backV l s = false := by
  obtain ⟨f, b, _, h2⟩ := h
  rw [backV_iff]
  refine ⟨f, fun k e hk => ?_⟩
  have h5 := ends_range he hk (s.testBit k)
  exact (h2 k e hk (hall _ h5.2.1 h5.2.2)).2
/-- The greatest of the first numbers. -/
def maxF (f : Nat → Nat) : Nat → Nat
  | 0 => 0
  | k + 1 => max (maxF f k) (f (k + 1))
theorem le_maxF (f : Nat → Nat) : ∀ k x, 1 ≤ x → x ≤ k → f x ≤ maxF f k
  | 0, x, h1, h2 => by omega
  | k + 1, x, h1, h2 => by
    simp only [maxF]
    by_cases e : x = k + 1
    · subst e; omega
    · have := le_maxF f k x h1 (by omega); omega
/-- The other way: numbers that fall along each arrow. -/
theorem back_falls {n : Nat} {l : List (Nat × Nat)} (he : EdgesOk n l) {s : Nat} : backV l s = false ↔ ∃ h : Nat → Nat, ∀ k e, l[k]? = some e → h (toE e (s.testBit k)) < h (frE e (s.testBit k)) := by
  rw [backV_iff]
  constructor
  · rintro ⟨f, hf⟩
    refine ⟨fun x => maxF f n - f x, fun k e hk => ?_⟩
    have h5 := ends_range he hk (s.testBit k)
    have h1 := le_maxF f n _ h5.1.1 h5.1.2
    have h2 := le_maxF f n _ h5.2.1 h5.2.2
    have := hf k e hk
    show maxF f n - f (toE e (s.testBit k)) < maxF f n - f (frE e (s.testBit k))
    omega
  · rintro ⟨f, hf⟩
    refine ⟨fun x => maxF f n - f x, fun k e hk => ?_⟩
    have h5 := ends_range he hk (s.testBit k)
    have h1 := le_maxF f n _ h5.1.1 h5.1.2
    have h2 := le_maxF f n _ h5.2.1 h5.2.2
    have := hf k e hk
    show maxF f n - f (frE e (s.testBit k)) < maxF f n - f (toE e (s.testBit k))
    omega
/-- What a net's arrows lead back. -/
noncomputable def backB (n : Int) (es : List (Int × Int)) (s : Int) : Bool := stateOkB n es s && backV (endsL es) s.toNat
/-- All arrows turned. -/
theorem back_turn {n : Nat} {l : List (Nat × Nat)} (he : EdgesOk n l) {s t : Nat} (h : ∀ k, k < l.length → t.testBit k = !s.testBit k) : backV l t = backV l s := by
  have one : ∀ s t : Nat, (∀ k, k < l.length → t.testBit k = !s.testBit k) → backV l s = false → backV l t = false := fun s t h hs => by
    rw [back_falls he]
    obtain ⟨f, hf⟩ := backV_iff.1 hs
    refine ⟨f, fun k e hk => ?_⟩
    have hlt := (List.getElem?_eq_some_iff.1 hk).1
    have := hf k e hk
    rw [h k hlt]
    unfold frE toE at this ⊢
    cases hb : s.testBit k <;> simp only [hb] at this ⊢ <;> simpa using this
  cases hs : backV l s with
  | false => exact one s t h hs
  | true =>
    cases ht : backV l t with
    | true => rfl
    | false => rw [one t s (fun k hk => by rw [h k hk, Bool.not_not]) ht] at hs; cases hs
theorem back_none {l : List (Nat × Nat)} (h : ∀ e ∈ l, e.1 < e.2) : backV l 0 = false := by
  rw [backV_iff]
  refine ⟨fun x => x, fun k e hk => ?_⟩
  have := h e (List.mem_of_getElem? hk)
  simpa [frE, toE] using this
/-- Without the last edge. -/
theorem back_less {l : List (Nat × Nat)} {m s t : Nat} (h : ∀ k, k < m → t.testBit k = s.testBit k) (hs : backV l s = false) : backV (l.take m) t = false := by
  obtain ⟨f, hf⟩ := backV_iff.1 hs
  rw [backV_iff]
  refine ⟨f, fun k e hk => ?_⟩
  have hlt := (List.getElem?_eq_some_iff.1 hk).1
  rw [List.length_take] at hlt
  have hk2 : l[k]? = some e := by rwa [List.getElem?_take_of_lt (by omega)] at hk
  rw [h k (by omega)]; exact hf k e hk2
theorem acy_states (l : List (Nat × Nat)) : acyN (fun x => x) l = (List.range (2 ^ l.length)).countP fun s => !backV l s := by
  unfold acyN
  refine countP_same fun s _ => ?_
  unfold backV; rw [Bool.not_not]
end Go.Proofs.Ytgacgaidlbkkmaa
