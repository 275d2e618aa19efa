/- Rows of truths of the call's own, told by a function. -/
import Derived.Test.YtdacfeebidhgnaaRow
namespace Go.Proofs.Ytdacfeebidhgnaa
open Go.RowKit
set_option maxRecDepth 100000

def truths (n : Nat) (A : Nat → Bool) : List Value := (List.range n).map fun i => Value.bool (A i)
theorem truths_length (n : Nat) (A : Nat → Bool) : (truths n A).length = n := by simp [truths]
theorem truths_get {n i : Nat} {A : Nat → Bool} (h : i < n) : (truths n A)[i]? = some (.bool (A i)) := by simp [truths, h]
def putB (A : Nat → Bool) (k : Nat) (v : Bool) (i : Nat) : Bool := if i = k then v else A i
theorem truths_set (n k : Nat) (A : Nat → Bool) (v : Bool) : (truths n A).set k (.bool v) = truths n (putB A k v) := by
  apply List.ext_getElem?
  intro j
  by_cases hj : j < n
  · by_cases hk : k = j
    · subst hk; rw [List.getElem?_set_self (by rw [truths_length]; exact hj), truths_get hj]; simp [putB]
    · rw [List.getElem?_set_ne hk, truths_get hj, truths_get hj]; simp [putB, show ¬ j = k from fun e => hk e.symm]
  · rw [List.getElem?_eq_none (by simp [truths]; omega), List.getElem?_eq_none (by simp [truths]; omega)]
theorem truths_congr {n : Nat} {A B : Nat → Bool} (h : ∀ i, i < n → A i = B i) : truths n A = truths n B := by
  apply List.ext_getElem?
  intro j
  by_cases hj : j < n
  · rw [truths_get hj, truths_get hj, h j hj]
  · rw [List.getElem?_eq_none (by simp [truths]; omega), List.getElem?_eq_none (by simp [truths]; omega)]
theorem madeCells_truths (n : Nat) : (madeCells #[.bool false] (n * 1)).toList = truths n (fun _ => false) := by
  apply List.ext_getElem?
  intro j
  by_cases hj : j < n
  · rw [truths_get hj]; simp [madeCells, hj, Nat.mod_one]
  · rw [List.getElem?_eq_none (by simp [madeCells]; omega), List.getElem?_eq_none (by rw [truths_length]; omega)]
theorem truth_info : (Try.prog.info? 4).map (fun i => (i.zero, i.size, i.bytes)) = some (some (.bool false), 1, 1) := by kernel_rfl

/-- A row of n truths of the call's own, in block g. -/
def OwnT (u : World) (base g n c : Nat) (A : Nat → Bool) : Prop := u.ownsRow base 4 1 (.slice (some ⟨g, 0, none⟩) n c) n (truths n A)
theorem OwnT.slot {u : World} {base g n c : Nat} {A : Nat → Bool} (h : OwnT u base g n c A) {k : Nat} (hk : k < n) : u.cell? ⟨g, k, none⟩ = some (.bool (A k)) ∧ u.frozen? ⟨g, k, none⟩ = false :=
  ⟨by rw [World.ownsRow.cellAt h k (by omega)]; exact truths_get hk, World.ownsRow.frozenAt h k⟩
theorem OwnT.store {u : World} {base g n c : Nat} {A : Nat → Bool} (h : OwnT u base g n c A) (k : Nat) (v : Bool) : OwnT (u.setCell ⟨g, k, none⟩ (.bool v)) base g n c (putB A k v) := by
  have h1 := (World.ownsRow.stored h k (.bool v)).1
  rw [truths_set] at h1; exact h1
theorem OwnT.congr {u : World} {base g n c : Nat} {A B : Nat → Bool} (h : OwnT u base g n c A) (e : ∀ i, i < n → A i = B i) : OwnT u base g n c B := by
  unfold OwnT; rw [← truths_congr e]; exact h
theorem OwnT.lt {u : World} {base g n c : Nat} {A : Nat → Bool} (h : OwnT u base g n c A) : g < u.heap.size := (World.ownsRow.lt h g rfl).2
theorem OwnT.ge {u : World} {base g n c : Nat} {A : Nat → Bool} (h : OwnT u base g n c A) : base ≤ g := (World.ownsRow.lt h g rfl).1
theorem OwnT.next {u u' : World} {base g n c : Nat} {A : Nat → Bool} (h : OwnT u base g n c A) (hb : Below u.heap.size u u') : OwnT u' base g n c A := ownsRow_next h hb
theorem OwnT.drew {u : World} {base g n c : Nat} {A : Nat → Bool} (h : OwnT u base g n c A) : OwnT u.drew base g n c A := h.next ((Below.refl _ _).drew)
theorem OwnT.drewN {u : World} {base g n c : Nat} {A : Nat → Bool} (h : OwnT u base g n c A) (m : Nat) : OwnT (u.drewN m) base g n c A := h.next (belowN (Below.refl _ _) m)
theorem OwnT.grown {u u' : World} {base g n c : Nat} {A : Nat → Bool} {r : Option Nat} (h : OwnT u base g n c A) (hg : u.grownBy u' r) (hr : r ≠ some g) : OwnT u' base g n c A :=
  World.ownsRow.kept h hg (.inr fun e => hr e.symm)
/-- What can be read of a row of truths. -/
def TruthsIn (u : World) (g n : Nat) (A : Nat → Bool) : Prop := g < u.heap.size ∧ ∀ k, k < n → u.cell? ⟨g, k, none⟩ = some (.bool (A k))
theorem OwnT.truths {u : World} {base g n c : Nat} {A : Nat → Bool} (h : OwnT u base g n c A) : TruthsIn u g n A := ⟨h.lt, fun _ hk => (h.slot hk).1⟩
theorem TruthsIn.step {u u' : World} {B g n : Nat} {A : Nat → Bool} (h : TruthsIn u g n A) (hb : Below B u u') (hB : g < B) : TruthsIn u' g n A :=
  ⟨Nat.lt_of_lt_of_le h.1 hb.size, fun k hk => (hb.cell (p := ⟨g, k, none⟩) hB).trans (h.2 k hk)⟩
theorem TruthsIn.next {u u' : World} {g n : Nat} {A : Nat → Bool} (h : TruthsIn u g n A) (hb : Below u.heap.size u u') : TruthsIn u' g n A := h.step hb h.1
end Go.Proofs.Ytdacfeebidhgnaa
