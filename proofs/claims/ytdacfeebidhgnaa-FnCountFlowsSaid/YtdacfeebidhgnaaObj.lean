/- A law's own things in memory: a net in a box, a row of integers. -/
import Derived.Test.YtdacfeebidhgnaaRow
import Derived.Test.YtdacfeebidhgnaaMark
namespace Go.Proofs.Ytdacfeebidhgnaa
open Go.RowKit
set_option maxRecDepth 100000

/-- A net in a box (block bx) of the law's, its edges in a row of its own below the box, from block 'base' on. -/
structure NetAt (u : World) (base bx : Nat) (n : Int) (A : Option Addr) (c : Nat) (es : List (Int × Int)) : Prop where
  own : OwnE u base (.slice A es.length c) es
  c0 : u.cell? ⟨bx, 0, none⟩ = some (.int .i64 n)
  c1 : u.cell? ⟨bx, 1, none⟩ = some (.slice A es.length c)
  lt : bx < u.heap.size
  row : ∀ j, (Value.slice A es.length c).ownBlock = some j → base ≤ j ∧ j < bx
section
variable {u u' : World} {base bx : Nat} {n : Int} {A : Option Addr} {c : Nat} {es : List (Int × Int)}
theorem NetAt.start (t : TypeId) (own : OwnE u base (.slice A es.length c) es) : NetAt (u.alloc (.cells #[.int .i64 n, .slice A es.length c] t)) base u.heap.size n A c es :=
  ⟨own.below ((Below.refl u.heap.size u).alloc (Nat.le_refl _) _) own.lt, by rw [World.cell?_alloc_at _ _ _ _ rfl]; rfl, by rw [World.cell?_alloc_at _ _ _ _ rfl]; rfl, by simp, fun j hj => World.ownsRow.lt own j hj⟩
theorem NetAt.step {B : Nat} (h : NetAt u base bx n A c es) (hb : Below B u u') (hB : bx < B) : NetAt u' base bx n A c es :=
  ⟨h.own.below hb (fun j hj => by have := (h.row j hj).2; omega), (hb.cell (p := ⟨bx, 0, none⟩) hB).trans h.c0, (hb.cell (p := ⟨bx, 1, none⟩) hB).trans h.c1, Nat.lt_of_lt_of_le h.lt hb.size, h.row⟩
theorem NetAt.edges (h : NetAt u base bx n A c es) : EdgesIn u u.heap.size A es := h.own.edges
theorem ArgNet.grownBy {w : World} {r : Option Nat} {cap : Nat} (h : ArgNet w u n A cap es) (hg : u.grownBy u' r) (hr : ∀ j, r = some j → w.heap.size < j) : ArgNet w u' n A cap es := by
  have hb : Below (w.heap.size + 1) u u' := ⟨hg.os, hg.tape, hg.output, hg.size, fun k hk => hg.block k (by have := h.lt; omega) (fun e => by have := hr k e.symm; omega)⟩
  exact h.step hb (by omega)
end

/-- A row of integers of the law's own, in a block from lo on, below hi. -/
structure RowAt (u : World) (lo hi : Nat) (v : Value) (xs : List Int) : Prop where
  own : OwnI u lo v xs
  row : ∀ j, v.ownBlock = some j → j < hi
  le : hi ≤ u.heap.size
section
variable {u u' : World} {lo hi : Nat} {v : Value} {xs : List Int}
theorem RowAt.start (own : OwnI u lo v xs) : RowAt u lo u.heap.size v xs := ⟨own, own.lt, Nat.le_refl _⟩
theorem RowAt.step {B : Nat} (h : RowAt u lo hi v xs) (hb : Below B u u') (hB : hi ≤ B) : RowAt u' lo hi v xs :=
  ⟨h.own.below hb (fun j hj => by have := h.row j hj; omega), h.row, Nat.le_trans h.le hb.size⟩
theorem RowAt.next (h : RowAt u lo hi v xs) (hb : Below u.heap.size u u') : RowAt u' lo hi v xs := h.step hb h.le
theorem RowAt.grown {r : Option Nat} (h : RowAt u lo hi v xs) (hg : u.grownBy u' r) (hr : ∀ j, r = some j → j < lo ∨ hi ≤ j) : RowAt u' lo hi v xs := by
  refine ⟨World.ownsRow.kept h.own hg ?_, h.row, Nat.le_trans h.le hg.size⟩
  cases ho : v.ownBlock with
  | none => exact .inl rfl
  | some j =>
    refine .inr fun e => ?_
    have h1 := h.row j ho
    have h2 := h.own.ge j ho
    have h3 := hr j e.symm
    omega
end
theorem RowAt.ints {u : World} {lo hi n c : Nat} {A : Option Addr} {xs : List Int} (h : RowAt u lo hi (.slice A n c) xs) : IntsIn u u.heap.size A xs := h.own.ints
/-- A row of m + 1 numbers was given back. -/
def GotRow (w : World) (m : Nat) (xs : List Int) (e : Ending) (w' : World) : Prop :=
  ∃ g c, e = .returned (.slice (some ⟨g, 0, none⟩) (m + 1) c) ∧ OwnI w' w.heap.size (.slice (some ⟨g, 0, none⟩) (m + 1) c) xs ∧ Below w.heap.size w w'
theorem GotInts.row {w w' : World} {xs : List Int} {m : Nat} {e : Ending} (hl : xs.length = m + 1) (h : GotInts w xs e w') : GotRow w m xs e w' := by
  obtain ⟨A, c, rfl, own, hb⟩ := h
  rcases own.form with ⟨_, h0⟩ | ⟨g, c', hv, _, _⟩
  · subst h0; simp at hl
  · injection hv with hA _ hc
    subst hA hc
    rw [hl] at own ⊢
    exact ⟨g, c, rfl, own, hb⟩
theorem RowAt.cell {u : World} {lo hi g n c : Nat} {xs : List Int} (h : RowAt u lo hi (.slice (some ⟨g, 0, none⟩) n c) xs) {k : Nat} (hk : k < n) : u.cell? ⟨g, k, none⟩ = some (.int .i64 (xs.getD k 0)) := (h.own.slot hk).1
end Go.Proofs.Ytdacfeebidhgnaa
