/- Plain facts on counts of states, on: whole nets, an edge away and an edge made one. -/
import Derived.Test.YtaplmlbpleilfaaCounts2
namespace Go.Proofs.Ytaplmlbpleilfaa
set_option maxRecDepth 100000

/-- All nodes are joined to the first one. -/
def wholeA (n : Nat) (R : Nat → Nat) : Bool := (List.range n).all fun i => decide (R 1 = R (i + 1))
theorem wholeA_iff (n : Nat) (R : Nat → Nat) : wholeA n R = true ↔ ∀ x, 1 ≤ x → x ≤ n → R 1 = R x := by
  simp only [wholeA, List.all_eq_true, List.mem_range, decide_eq_true_eq]
  constructor
  · intro h x h1 h2
    have := h (x - 1) (by omega)
    rwa [show x - 1 + 1 = x by omega] at this
  · intro h i hi
    exact h (i + 1) (by omega) (by omega)
theorem wholeA_blind (n : Nat) : Blind (wholeA n) := by
  intro R R' h
  rw [Bool.eq_iff_iff, wholeA_iff, wholeA_iff]
  constructor
  · intro h1 x a b; exact (h 1 x).1 (h1 x a b)
  · intro h1 x a b; exact (h 1 x).2 (h1 x a b)
theorem wholeA_up (n : Nat) : Up (wholeA n) := by
  intro R a b h
  rw [wholeA_iff] at h ⊢
  intro x h1 h2
  exact glue_kept (h x h1 h2) a b
theorem good_whole {n : Nat} {R : Nat → Nat} (h1 : Good n R) (hn : 1 ≤ n) : whole1 n R = wholeA n R := by
  rw [Bool.eq_iff_iff, wholeA_iff]
  simp only [whole1, decide_eq_true_eq]
  constructor
  · intro h x hx hx'
    by_cases e : R 1 = R x
    · exact e
    · have h3 := cnt_glue (a := 1) h1.idem h1.range ⟨hx, hx'⟩
      rw [if_neg e] at h3
      have h6 := (h1.glue (a := 1) (b := x) ⟨Nat.le_refl _, hn⟩).pos hn
      omega
  · intro h
    have h2 := cnt_anti (F := fun _ => 1) (G := R) (n := n) (fun _ => rfl) (fun _ _ _ => ⟨Nat.le_refl _, hn⟩) (fun x y hx hx' hy hy' _ => (h x hx hx').symm.trans (h y hy hy'))
    have h3 : ∀ j, cnt (fun _ => 1) j ≤ 1 := by
      intro j
      cases j with
      | zero => simp [cnt]
      | succ j =>
        induction j with
        | zero => simp [cnt]
        | succ j ih =>
          have : cnt (fun _ => 1) (j + 1 + 1) = cnt (fun _ => 1) (j + 1) := by rw [cnt, if_neg (by omega), Nat.add_zero]
          omega
    have h4 := h1.pos hn
    have h5 := h3 n
    omega
theorem ways_good {n : Nat} (hn : 1 ≤ n) : ∀ (es : List (Nat × Nat)) (R : Nat → Nat) (k : Nat), EdgesOk n es → Good n R → ways (whole1 n) es R k = ways (wholeA n) es R k
  | [], R, k, _, hg => by simp only [ways, good_whole hg hn]
  | _ :: es, R, 0, he, hg => by simp only [ways]; exact ways_good hn es R 0 (fun x hx => he x (by simp [hx])) hg
  | e :: es, R, k + 1, he, hg => by
    have he' : EdgesOk n es := fun x hx => he x (by simp [hx])
    simp only [ways]
    rw [ways_good hn es R (k + 1) he' hg, ways_good hn es _ k he' (hg.glue (he e (by simp)).1)]

/-- Among 1..n R joins what R' joins of the new names. -/
def RelK (n : Nat) (f : Nat → Nat) (R R' : Nat → Nat) : Prop := ∀ x y, 1 ≤ x → x ≤ n → 1 ≤ y → y ≤ n → (R x = R y ↔ R' (f x) = R' (f y))
theorem RelK.glue {n : Nat} {f R R' : Nat → Nat} (h : RelK n f R R') {a b : Nat} (ha : 1 ≤ a ∧ a ≤ n) (hb : 1 ≤ b ∧ b ≤ n) : RelK n f (glue R a b) (glue R' (f a) (f b)) := by
  intro x y h1 h2 h3 h4
  rw [glue_eq, glue_eq, h x y h1 h2 h3 h4, h x a h1 h2 ha.1 ha.2, h x b h1 h2 hb.1 hb.2, h y a h3 h4 ha.1 ha.2, h y b h3 h4 hb.1 hb.2]
def mmN (f : Nat → Nat) (e : Nat × Nat) : Nat × Nat := (min (f e.1) (f e.2), max (f e.1) (f e.2))
theorem RelK.glueM {n : Nat} {f R R' : Nat → Nat} (h : RelK n f R R') {e : Nat × Nat} (ha : 1 ≤ e.1 ∧ e.1 ≤ n) (hb : 1 ≤ e.2 ∧ e.2 ≤ n) : RelK n f (Go.Proofs.Ytaplmlbpleilfaa.glue R e.1 e.2) (Go.Proofs.Ytaplmlbpleilfaa.glue R' (mmN f e).1 (mmN f e).2) := by
  have h1 := h.glue ha hb
  by_cases hlt : f e.1 ≤ f e.2
  · have e1 : (mmN f e).1 = f e.1 := by simp [mmN]; omega
    have e2 : (mmN f e).2 = f e.2 := by simp [mmN]; omega
    rw [e1, e2]; exact h1
  · have e1 : (mmN f e).1 = f e.2 := by simp [mmN]; omega
    have e2 : (mmN f e).2 = f e.1 := by simp [mmN]; omega
    rw [e1, e2]
    intro x y a b c d
    exact (h1 x y a b c d).trans (Ker.swap R' (f e.1) (f e.2) _ _)
theorem ways_rel {n n' : Nat} {f : Nat → Nat} (h1 : f 1 = 1) (hn : 1 ≤ n) (hf : ∀ x, 1 ≤ x → x ≤ n → 1 ≤ f x ∧ f x ≤ n') (hs : ∀ y, 1 ≤ y → y ≤ n' → ∃ x, 1 ≤ x ∧ x ≤ n ∧ f x = y) :
    ∀ (es : List (Nat × Nat)) (R R' : Nat → Nat) (k : Nat), EdgesOk n es → RelK n f R R' → ways (wholeA n) es R k = ways (wholeA n') (es.map (mmN f)) R' k
  | [], R, R', k, _, h => by
    have : wholeA n R = wholeA n' R' := by
      rw [Bool.eq_iff_iff, wholeA_iff, wholeA_iff]
      constructor
      · intro hw y a b
        obtain ⟨x, hx, hx', rfl⟩ := hs y a b
        have := (h 1 x (Nat.le_refl _) hn hx hx').1 (hw x hx hx')
        rwa [h1] at this
      · intro hw x a b
        refine (h 1 x (Nat.le_refl _) hn a b).2 ?_
        rw [h1]; exact hw _ (hf x a b).1 (hf x a b).2
    simp only [List.map_nil, ways, this]
  | e :: es, R, R', 0, he, h => by
    simp only [List.map_cons, ways]; exact ways_rel h1 hn hf hs es R R' 0 (fun x hx => he x (by simp [hx])) h
  | e :: es, R, R', k + 1, he, h => by
    have he' : EdgesOk n es := fun x hx => he x (by simp [hx])
    have hee := he e (by simp)
    simp only [List.map_cons, ways]
    rw [ways_rel h1 hn hf hs es R R' (k + 1) he' h, ways_rel h1 hn hf hs es _ _ k he' (h.glueM hee.1 hee.2)]

/-- The number that a node has after the ends of g are made one. -/
def renN (g : Nat × Nat) (v : Nat) : Nat := if v = g.2 then g.1 else if g.2 < v then v - 1 else v
theorem renN_start {n : Nat} {g : Nat × Nat} (hg : 1 ≤ g.1 ∧ g.1 < g.2 ∧ g.2 ≤ n) : RelK n (renN g) (glue (fun x => x) g.1 g.2) (fun x => x) := by
  intro x y _ _ _ _
  rw [glue_eq]
  show x = y ∨ ((x = g.1 ∨ x = g.2) ∧ (y = g.1 ∨ y = g.2)) ↔ renN g x = renN g y
  unfold renN
  split <;> split <;> (try split) <;> (try split) <;> omega
theorem ways_made {n : Nat} {g : Nat × Nat} (hg : 1 ≤ g.1 ∧ g.1 < g.2 ∧ g.2 ≤ n) (es : List (Nat × Nat)) (he : EdgesOk n es) (k : Nat) :
    ways (wholeA n) es (glue (fun x => x) g.1 g.2) k = ways (wholeA (n - 1)) (es.map (mmN (renN g))) (fun x => x) k := by
  refine ways_rel ?_ (by omega) ?_ ?_ es _ _ k he (renN_start hg)
  · unfold renN; rw [if_neg (by omega), if_neg (by omega)]
  · intro x h1 h2; unfold renN; split
    · omega
    · split <;> omega
  · intro y h1 h2
    by_cases h : y < g.2
    · exact ⟨y, h1, by omega, by unfold renN; rw [if_neg (by omega), if_neg (by omega)]⟩
    · exact ⟨y + 1, by omega, by omega, by unfold renN; rw [if_neg (by omega), if_pos (by omega)]; omega⟩

/-- A row, and the row one later. -/
def tw (r : Nat → Nat) (k : Nat) : Nat := r k + if k = 0 then 0 else r (k - 1)
def twN : Nat → (Nat → Nat) → Nat → Nat
  | 0, r => r
  | c + 1, r => tw (twN c r)
def later (r : Nat → Nat) (k : Nat) : Nat := if k = 0 then 0 else r (k - 1)
theorem tw_add (a b : Nat → Nat) : tw (fun k => a k + later b k) = fun k => tw a k + later (tw b) k := by
  funext k
  unfold tw later
  by_cases h0 : k = 0
  · subst h0; simp
  · by_cases h1 : k = 1
    · subst h1; simp; omega
    · simp only [h0, if_false, show ¬ k - 1 = 0 by omega]; omega
theorem twN_add (a b : Nat → Nat) : ∀ c, twN c (fun k => a k + later b k) = fun k => twN c a k + later (twN c b) k
  | 0 => rfl
  | c + 1 => by simp only [twN, twN_add a b c, tw_add]
theorem ways_cons (q : (Nat → Nat) → Bool) (e : Nat × Nat) (es : List (Nat × Nat)) (R : Nat → Nat) : ways q (e :: es) R = fun k => ways q es R k + later (ways q es (glue R e.1 e.2)) k := by
  funext k
  cases k with
  | zero => simp [ways, later]
  | succ k => simp [ways, later]
/-- Edges with the same ends as one that is made one: each there or not. -/
theorem ways_same {q : (Nat → Nat) → Bool} (hq : Blind q) (g : Nat × Nat) : ∀ (es : List (Nat × Nat)) (R : Nat → Nat), R g.1 = R g.2 →
    ways q es R = twN (es.countP fun e => decide (e = g)) (ways q (es.filter fun e => !decide (e = g)) R)
  | [], R, _ => rfl
  | e :: es, R, h => by
    by_cases heq : e = g
    · subst heq
      have h1 : ways q (e :: es) R = tw (ways q es R) := by
        funext k
        cases k with
        | zero => simp [ways, tw]
        | succ k => rw [ways_loop hq h es k]; simp [tw]
      rw [h1, ways_same hq e es R h]
      simp [twN]
    · have h2 : (glue R e.1 e.2) g.1 = (glue R e.1 e.2) g.2 := glue_kept h _ _
      rw [ways_cons, ways_same hq g es R h, ways_same hq g es _ h2]
      have e1 : (e :: es).countP (fun e => decide (e = g)) = es.countP fun e => decide (e = g) := List.countP_cons_of_neg (by simpa using heq)
      have e2 : ((e :: es).filter fun e => !decide (e = g)) = e :: es.filter fun e => !decide (e = g) := List.filter_cons_of_pos (by simpa using heq)
      rw [e1, e2, ways_cons, twN_add]
end Go.Proofs.Ytaplmlbpleilfaa
