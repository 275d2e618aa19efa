/- RRows of rows of integers, all of the call's own. -/
import Derived.Test.YtcmomghlepmogabRow
import Derived.BigRegion
import Derived.Deep.AppendLies
namespace Go.Proofs.Ytcmomghlepmogab
open Go.RowKit
set_option maxRecDepth 100000

theorem ownsRow_next {u u' : World} {base : Nat} {T : TypeId} {v : Value} {k : Nat} {vs : List Value} (h : u.ownsRow base T 1 v k vs) (hb : Below u.heap.size u u') : u'.ownsRow base T 1 v k vs := by
  have hlt := fun j hj => (World.ownsRow.lt h j hj).2
  rcases h.2 with ⟨rfl, h0⟩ | ⟨g, cap, cur, rfl, hb', hh, h3⟩
  · exact ⟨h.1, .inl ⟨rfl, h0⟩⟩
  · exact ⟨h.1, .inr ⟨g, cap, cur, rfl, hb', (hb.block g (hlt g rfl)).trans hh, h3⟩⟩
/-- What can be read of rows of rows: all in blocks before B. -/
def RRowsRd (u : World) (B : Nat) (OA : Option Addr) (k m : Nat) (F : Nat → List Int) : Prop :=
  ∀ j, j < k → ∃ ob b c, OA = some ⟨ob, 0, none⟩ ∧ ob < B ∧ u.cell? ⟨ob, j, none⟩ = some (.slice (some ⟨b, 0, none⟩) m c) ∧ IntsIn u B (some ⟨b, 0, none⟩) (F j)
theorem RRowsRd.below {u u' : World} {B B' : Nat} {OA : Option Addr} {k m : Nat} {F : Nat → List Int} (h : RRowsRd u B OA k m F) (hb : Below B' u u') (hB : B ≤ B') : RRowsRd u' B OA k m F := by
  intro j hj
  obtain ⟨ob, b, c, h1, h2, h3, h4⟩ := h j hj
  exact ⟨ob, b, c, h1, h2, (hb.cell (p := ⟨ob, j, none⟩) (by simp; omega)).trans h3, h4.below hb hB⟩
end Go.Proofs.Ytcmomghlepmogab
