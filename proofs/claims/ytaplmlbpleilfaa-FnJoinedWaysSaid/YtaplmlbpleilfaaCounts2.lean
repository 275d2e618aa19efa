/- Plain facts on counts of states, on: states are choices of edges; forests; an edge made one. -/
import Derived.Test.YtaplmlbpleilfaaCounts
namespace Go.Proofs.Ytaplmlbpleilfaa
set_option maxRecDepth 100000

theorem countP_double (f : Nat → Bool) : ∀ n, (List.range (2 * n)).countP f = (List.range n).countP (fun s => f (2 * s)) + (List.range n).countP (fun s => f (2 * s + 1))
  | 0 => rfl
  | n + 1 => by
    rw [show 2 * (n + 1) = 2 * n + 1 + 1 by omega, List.range_succ, List.range_succ, List.range_succ]
    simp only [List.countP_append, List.countP_cons, List.countP_nil, countP_double f n]
    omega
/-- R, and what the edges there join, one by one. -/
def repL : List (Nat × Nat) → (Nat → Bool) → (Nat → Nat) → Nat → Nat
  | [], _, R => R
  | e :: es, T, R => repL es (fun i => T (i + 1)) (if T 0 = true then glue R e.1 e.2 else R)
theorem repL_append (e : Nat × Nat) : ∀ (l : List (Nat × Nat)) (T : Nat → Bool) (R : Nat → Nat), repL (l ++ [e]) T R = if T l.length = true then glue (repL l T R) e.1 e.2 else repL l T R
  | [], T, R => by simp [repL]
  | f :: l, T, R => by simp only [List.cons_append, repL, repL_append e l, List.length_cons]
theorem repL_rep (E : Nat → Nat × Nat) (T : Nat → Bool) : ∀ m, repL ((List.range m).map E) T (fun x => x) = rep E T m
  | 0 => rfl
  | m + 1 => by
    rw [List.range_succ, List.map_append, List.map_cons, List.map_nil, repL_append, repL_rep E T m]
    simp [rep]
theorem bit_even (s i : Nat) : (2 * s).testBit (i + 1) = s.testBit i := by rw [Nat.testBit_succ]; congr 1; omega
theorem bit_odd (s i : Nat) : (2 * s + 1).testBit (i + 1) = s.testBit i := by rw [Nat.testBit_succ]; congr 1; omega
theorem pop_even (s : Nat) (h : s < 1024) : pop (2 * s) = pop s := by
  rw [pop_step (2 * s) (by omega), show 2 * s % 2 = 0 by omega, show 2 * s / 2 = s by omega]; omega
theorem pop_odd (s : Nat) (h : s < 1024) : pop (2 * s + 1) = pop s + 1 := by
  rw [pop_step (2 * s + 1) (by omega), show (2 * s + 1) % 2 = 1 by omega, show (2 * s + 1) / 2 = s by omega]; omega
theorem pow_le10 {m : Nat} (h : m ≤ 10) : 2 ^ m ≤ 1024 := Nat.pow_le_pow_right (by omega) h
theorem countP_same {f g : Nat → Bool} {n : Nat} (h : ∀ s, s < n → f s = g s) : (List.range n).countP f = (List.range n).countP g := by
  induction n with
  | zero => rfl
  | succ n ih =>
    rw [List.range_succ, List.countP_append, List.countP_append, ih (fun s hs => h s (by omega)), List.countP_cons, List.countP_cons, h n (by omega)]
    rfl
/-- States with k edges there that meet q are choices of k edges. -/
theorem states_ways (q : (Nat → Nat) → Bool) : ∀ (es : List (Nat × Nat)) (R : Nat → Nat) (k : Nat), es.length ≤ 10 →
    (List.range (2 ^ es.length)).countP (fun s => q (repL es (fun i => s.testBit i) R) && decide (pop s = k)) = ways q es R k
  | [], R, k, _ => by
    simp only [List.length_nil, Nat.pow_zero, List.range_one, List.countP_cons, List.countP_nil, repL, ways, pop_zero]
    by_cases hk : k = 0
    · subst hk; simp
    · simp [hk, show ¬ 0 = k from fun e => hk e.symm]
  | e :: es, R, k, h => by
    simp only [List.length_cons] at h ⊢
    have hp := pow_le10 (show es.length ≤ 10 by omega)
    rw [Nat.pow_succ, Nat.mul_comm, countP_double]
    have h1 : (List.range (2 ^ es.length)).countP (fun s => q (repL (e :: es) (fun i => (2 * s).testBit i) R) && decide (pop (2 * s) = k)) = ways q es R k := by
      rw [← states_ways q es R k (by omega)]
      refine countP_same fun s hs => ?_
      simp only [repL, bit_even, pop_even s (by omega)]
      simp
    have h2 : ∀ j, k = j + 1 → (List.range (2 ^ es.length)).countP (fun s => q (repL (e :: es) (fun i => (2 * s + 1).testBit i) R) && decide (pop (2 * s + 1) = k)) = ways q es (glue R e.1 e.2) j := by
      intro j hj
      rw [← states_ways q es (glue R e.1 e.2) j (by omega)]
      refine countP_same fun s hs => ?_
      simp only [repL, bit_odd, pop_odd s (by omega), hj]
      simp
    rw [h1]
    cases k with
    | zero =>
      have h3 : (List.range (2 ^ es.length)).countP (fun s => q (repL (e :: es) (fun i => (2 * s + 1).testBit i) R) && decide (pop (2 * s + 1) = 0)) = 0 := by
        rw [List.countP_eq_zero]
        intro s hs
        have := List.mem_range.1 hs
        simp [pop_odd s (by omega)]
      rw [h3]; rfl
    | succ j => rw [h2 j rfl]; rfl

/-- Choices of k edges without a ring. -/
def forests : List (Nat × Nat) → (Nat → Nat) → Nat → Nat
  | [], _, k => if k = 0 then 1 else 0
  | _ :: es, R, 0 => forests es R 0
  | e :: es, R, k + 1 => forests es R (k + 1) + if R e.1 = R e.2 then 0 else forests es (glue R e.1 e.2) k
def EdgesOk (n : Nat) (es : List (Nat × Nat)) : Prop := ∀ e ∈ es, (1 ≤ e.1 ∧ e.1 ≤ n) ∧ (1 ≤ e.2 ∧ e.2 ≤ n)
/-- R gives each node one of its piece. -/
structure Good (n : Nat) (R : Nat → Nat) : Prop where
  idem : ∀ x, R (R x) = R x
  range : ∀ x, 1 ≤ x → x ≤ n → 1 ≤ R x ∧ R x ≤ n
theorem Good.glue {n : Nat} {R : Nat → Nat} (h : Good n R) {a b : Nat} (ha : 1 ≤ a ∧ a ≤ n) : Good n (glue R a b) :=
  ⟨glue_idem h.idem a b, fun x h1 h2 => by
    unfold Go.Proofs.Ytaplmlbpleilfaa.glue
    have := h.range x h1 h2
    have := h.range a ha.1 ha.2
    split <;> assumption⟩
def whole1 (n : Nat) (R : Nat → Nat) : Bool := decide (cnt R n = 1)
theorem Good.pos {n : Nat} {R : Nat → Nat} (h : Good n R) (hn : 1 ≤ n) : 1 ≤ cnt R n := by
  have h1 := h.range 1 (Nat.le_refl _) hn
  exact cnt_pos h1.1 (h.idem 1) n h1.2
theorem forests_zero : ∀ (es : List (Nat × Nat)) (R : Nat → Nat), forests es R 0 = 1
  | [], _ => rfl
  | _ :: es, R => by simp only [forests]; exact forests_zero es R
/-- As many edges as pieces: none. -/
theorem forests_many {n : Nat} (hn : 1 ≤ n) : ∀ (es : List (Nat × Nat)) (R : Nat → Nat) (k : Nat), EdgesOk n es → Good n R → cnt R n ≤ k → forests es R k = 0
  | [], R, k, _, hg, h => by
    have := hg.pos hn
    simp only [forests]; rw [if_neg (by omega)]
  | _ :: es, R, 0, _, hg, h => by have := hg.pos hn; omega
  | e :: es, R, k + 1, he, hg, h => by
    have he' : EdgesOk n es := fun x hx => he x (by simp [hx])
    have h1 := he e (by simp)
    simp only [forests]
    rw [forests_many hn es R (k + 1) he' hg h]
    split
    · rfl
    · rename_i hne
      have hc := cnt_glue (a := e.1) hg.idem hg.range h1.2
      rw [if_neg hne] at hc
      rw [forests_many hn es _ k he' (hg.glue h1.1) (by omega)]
/-- Too few edges: not whole. -/
theorem whole_few {n : Nat} : ∀ (es : List (Nat × Nat)) (R : Nat → Nat) (k : Nat), EdgesOk n es → Good n R → k + 1 < cnt R n → ways (whole1 n) es R k = 0
  | [], R, k, _, _, h => by
    have hf : whole1 n R = false := by simp [whole1]; omega
    simp only [ways, hf]
    simp
  | e :: es, R, 0, he, hg, h => by
    simp only [ways]; exact whole_few es R 0 (fun x hx => he x (by simp [hx])) hg h
  | e :: es, R, k + 1, he, hg, h => by
    have he' : EdgesOk n es := fun x hx => he x (by simp [hx])
    have h1 := he e (by simp)
    have hc := cnt_glue (a := e.1) hg.idem hg.range h1.2
    simp only [ways]
    rw [whole_few es R (k + 1) he' hg h, whole_few es _ k he' (hg.glue h1.1) (by split at hc <;> omega)]
/-- One less edges than pieces: whole exactly without a ring. -/
theorem whole_forests {n : Nat} : ∀ (es : List (Nat × Nat)) (R : Nat → Nat) (k : Nat), EdgesOk n es → Good n R → cnt R n = k + 1 → ways (whole1 n) es R k = forests es R k
  | [], R, k, _, _, h => by
    simp only [ways, forests, whole1]
    by_cases hk : k = 0
    · subst hk; simp [h]
    · simp [hk]
  | e :: es, R, 0, he, hg, h => by
    simp only [ways, forests]; exact whole_forests es R 0 (fun x hx => he x (by simp [hx])) hg h
  | e :: es, R, k + 1, he, hg, h => by
    have he' : EdgesOk n es := fun x hx => he x (by simp [hx])
    have h1 := he e (by simp)
    have hc := cnt_glue (a := e.1) hg.idem hg.range h1.2
    simp only [ways, forests]
    rw [whole_forests es R (k + 1) he' hg h]
    split
    · rename_i hj
      rw [if_pos hj] at hc
      rw [whole_few es _ k he' (hg.glue h1.1) (by omega)]
    · rename_i hj
      rw [if_neg hj] at hc
      rw [whole_forests es _ k he' (hg.glue h1.1) (by omega)]
end Go.Proofs.Ytaplmlbpleilfaa
