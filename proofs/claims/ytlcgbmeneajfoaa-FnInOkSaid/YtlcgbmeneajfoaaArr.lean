/- The array of pieces in memory, and headOf, join and count on it. -/
import Derived.Test.YtlcgbmeneajfoaaPieces
import Derived.Test.YtlcgbmeneajfoaaEdgesAt
import Derived.Laws.OwnMore
import Derived.LoopTactic
import Derived.RegionTactic
import Derived.BigRegion
import Derived.Deep.RegionWith
namespace Go.Proofs.Ytlcgbmeneajfoaa
open Go.RowKit
set_option maxRecDepth 100000

def rowN (p : Nat → Nat) (n : Nat) : List Value := (List.range n).map fun x => .int .i64 (p x : Nat)
def upd (p : Nat → Nat) (k v : Nat) (x : Nat) : Nat := if x = k then v else p x
theorem rowN_get (p : Nat → Nat) {n k : Nat} (h : k < n) : (rowN p n)[k]? = some (.int .i64 (p k : Nat)) := by simp [rowN, h]
theorem rowN_length (p : Nat → Nat) (n : Nat) : (rowN p n).length = n := by simp [rowN]
theorem rowN_set (p : Nat → Nat) (n k v : Nat) : (rowN p n).set k (.int .i64 (v : Nat)) = rowN (upd p k v) n := by
  apply List.ext_getElem?
  intro j
  simp only [rowN, List.getElem?_set, List.getElem?_map, List.length_map, List.length_range, upd]
  by_cases h : k = j
  · subst h
    by_cases hk : k < n
    · simp [hk]
    · simp [hk]
  · rw [if_neg h]
    by_cases hj : j < n
    · simp [hj, show ¬ j = k from fun e => h e.symm]
    · simp [hj]
theorem rowN_congr {p q : Nat → Nat} {n : Nat} (h : ∀ x, x < n → p x = q x) : rowN p n = rowN q n := by
  unfold rowN
  apply List.map_congr_left
  intro x hx
  rw [h x (by simpa using hx)]

/-- The array as a value, and as a new block. -/
def arrC (q : Nat → Nat) : Array Value := #[.int .i64 (q 0 : Nat), .int .i64 (q 1 : Nat), .int .i64 (q 2 : Nat), .int .i64 (q 3 : Nat), .int .i64 (q 4 : Nat), .int .i64 (q 5 : Nat), .int .i64 (q 6 : Nat)]
/-- R tells for each node the one at the end of its way over p; d is less the further one goes. -/
structure Forest (p R d : Nat → Nat) : Prop where
  small : ∀ x, x < 7 → p x < 7
  down : ∀ x, x < 7 → p x ≠ x → d (p x) < d x
  same : ∀ x, x < 7 → R (p x) = R x
  fix : ∀ x, x < 7 → p x = x → R x = x
  root : ∀ x, x < 7 → R x < 7 ∧ p (R x) = R x
theorem Forest.start {p : Nat → Nat} (h : ∀ x, x < 7 → p x = x) : Forest p (fun x => x) (fun _ => 0) :=
  ⟨fun x hx => by rw [h x hx]; exact hx, fun x hx h1 => absurd (h x hx) h1, fun x hx => h x hx, fun _ _ _ => rfl, fun x hx => ⟨hx, h x hx⟩⟩
theorem Forest.step {p R d : Nat → Nat} (h : Forest p R d) {y : Nat} (hy : y < 7) (hne : p y ≠ y) :
    Forest (upd p y (p (p y))) R d ∧ d (p (p y)) < d y ∧ R (p (p y)) = R y ∧ p (p y) < 7 := by
  have h1 := h.small y hy
  have h2 := h.small _ h1
  have h3 := h.down y hy hne
  have h4 : d (p (p y)) < d y := by
    by_cases e : p (p y) = p y
    · rw [e]; exact h3
    · have := h.down _ h1 e; omega
  have h5 : R (p (p y)) = R y := (h.same _ h1).trans (h.same y hy)
  refine ⟨⟨?_, ?_, ?_, ?_, ?_⟩, h4, h5, h2⟩
  · intro x hx; unfold upd; split
    · exact h2
    · exact h.small x hx
  · intro x hx; unfold upd; split
    · rename_i e; subst e; intro _; exact h4
    · exact h.down x hx
  · intro x hx; unfold upd; split
    · rename_i e; subst e; exact h5
    · exact h.same x hx
  · intro x hx; unfold upd; split
    · rename_i e; subst e; intro e; rw [e] at h4; omega
    · exact h.fix x hx
  · intro x hx
    refine ⟨(h.root x hx).1, ?_⟩
    unfold upd; split
    · rename_i e; have := (h.root x hx).2; rw [e] at this; exact absurd this hne
    · exact (h.root x hx).2
theorem Forest.idem {p R d : Nat → Nat} (h : Forest p R d) {x : Nat} (hx : x < 7) : R (R x) = R x := h.fix _ (h.root x hx).1 (h.root x hx).2
theorem Forest.join {p R d : Nat → Nat} (h : Forest p R d) {a b : Nat} (ha : a < 7) (hb : b < 7) :
    Forest (upd p (R b) (R a)) (glue R a b) (fun x => if R x = R b then d x + d (R a) + 1 else d x) := by
  have ra := h.root a ha
  have rb := h.root b hb
  have ia := h.idem ha
  have ib := h.idem hb
  refine ⟨?_, ?_, ?_, ?_, ?_⟩
  · intro x hx; unfold upd; split
    · exact ra.1
    · exact h.small x hx
  · intro x hx; unfold upd; split
    · rename_i e; subst e
      intro hne
      rw [if_pos ib]
      by_cases e : R (R a) = R b
      · rw [ia] at e; exact absurd e hne
      · rw [if_neg e]; omega
    · intro hne
      have := h.down x hx hne
      simp only [h.same x hx]
      split <;> omega
  · intro x hx; unfold upd glue; split
    · rename_i e; subst e
      rw [if_pos ib, ia]; split <;> rfl
    · rw [h.same x hx]
  · intro x hx; unfold upd glue; split
    · rename_i e; subst e; intro e; rw [if_pos ib]; exact e
    · intro e
      have hf := h.fix x hx e
      rename_i hne
      by_cases e2 : R x = R b
      · rw [hf] at e2; exact absurd e2 hne
      · rw [if_neg e2]; exact hf
  · intro x hx; unfold glue; split
    · refine ⟨ra.1, ?_⟩
      unfold upd; split
      · rfl
      · exact ra.2
    · refine ⟨(h.root x hx).1, ?_⟩
      unfold upd; rename_i hne; rw [if_neg hne]; exact (h.root x hx).2
theorem Forest.iff {p R d : Nat → Nat} (h : Forest p R d) {x : Nat} (hx : x < 7) : p x = x ↔ R x = x :=
  ⟨h.fix x hx, fun e => by have := (h.root x hx).2; rw [e] at this; exact this⟩

end Go.Proofs.Ytlcgbmeneajfoaa
