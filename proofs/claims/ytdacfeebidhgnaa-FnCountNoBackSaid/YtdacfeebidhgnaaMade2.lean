/- MadeOne of the reference: its contract. -/
import Derived.Test.YtdacfeebidhgnaaMade
import Derived.Deep.QuietTactic
import Derived.BigQuiet
import Derived.BigRegion
import Derived.Deep.RegionHeld3
import Derived.Deep.RegionLawGrows
import Derived.Deep.AppendLies
namespace Go.Proofs.Ytdacfeebidhgnaa
open Go.RowKit
set_option maxRecDepth 100000

/-- What stands before the loop: the net's box, the result's, the edge's, and the one of the net that is made. -/
structure MadeOut (w wr : World) (n : Int) (A : Option Addr) (cap : Nat) (es : List (Int × Int)) (B1 : Nat) (ga gb : Int) (v : Value) : Prop where
  L : ArgNet w wr n A cap es
  r0 : wr.cell? ⟨w.heap.size + 1, 0, none⟩ = some (.int .i64 0)
  r1 : wr.cell? ⟨w.heap.size + 1, 1, none⟩ = some (.slice none 0 0)
  q0 : wr.frozen? ⟨w.heap.size + 1, 0, none⟩ = false
  q1 : wr.frozen? ⟨w.heap.size + 1, 1, none⟩ = false
  x0 : wr.cell? ⟨B1, 0, none⟩ = some (.int .i64 ga)
  x1 : wr.cell? ⟨B1, 1, none⟩ = some (.int .i64 gb)
  y0 : wr.cell? ⟨B1 + 1, 0, none⟩ = some (.int .i64 (n - 1))
  y1 : wr.cell? ⟨B1 + 1, 1, none⟩ = some v
  y2 : wr.frozen? ⟨B1 + 1, 1, none⟩ = false
  o1 : w.heap.size + 1 < B1
  o2 : B1 + 1 < wr.heap.size
theorem MadeOut.step {w wr w2 : World} {n : Int} {A : Option Addr} {cap B : Nat} {es : List (Int × Int)} {B1 : Nat} {ga gb : Int} {v : Value} (h : MadeOut w wr n A cap es B1 ga gb v) (hb : Below B wr w2) (hB : B1 + 1 < B) : MadeOut w w2 n A cap es B1 ga gb v := by
  have o1 := h.o1
  have o2 := h.o2
  have hs := hb.size
  have cc : ∀ b o, b < B → w2.cell? ⟨b, o, none⟩ = wr.cell? ⟨b, o, none⟩ := fun b o h => hb.cell (p := ⟨b, o, none⟩) h
  have ff : ∀ b o, b < B → w2.frozen? ⟨b, o, none⟩ = wr.frozen? ⟨b, o, none⟩ := fun b o h => hb.frozen (p := ⟨b, o, none⟩) h
  exact ⟨h.L.step hb (by omega), (cc _ _ (by omega)).trans h.r0, (cc _ _ (by omega)).trans h.r1, (ff _ _ (by omega)).trans h.q0, (ff _ _ (by omega)).trans h.q1,
    (cc _ _ (by omega)).trans h.x0, (cc _ _ (by omega)).trans h.x1, (cc _ _ (by omega)).trans h.y0, (cc _ _ (by omega)).trans h.y1, (ff _ _ (by omega)).trans h.y2, o1, by omega⟩
theorem MadeOut.stored {w wr : World} {n : Int} {A : Option Addr} {cap : Nat} {es : List (Int × Int)} {B1 : Nat} {ga gb : Int} {v : Value} (h : MadeOut w wr n A cap es B1 ga gb v) (u : Value) : MadeOut w (wr.setCell ⟨B1 + 1, 1, none⟩ u) n A cap es B1 ga gb u := by
  have o1 := h.o1
  have o2 := h.o2
  have hb : Below (B1 + 1) wr (wr.setCell ⟨B1 + 1, 1, none⟩ u) := (Below.refl _ _).setCell (by simp) _
  have cc : ∀ b o, b < B1 + 1 → (wr.setCell ⟨B1 + 1, 1, none⟩ u).cell? ⟨b, o, none⟩ = wr.cell? ⟨b, o, none⟩ := fun b o h => hb.cell (p := ⟨b, o, none⟩) h
  have ff : ∀ b o, b < B1 + 1 → (wr.setCell ⟨B1 + 1, 1, none⟩ u).frozen? ⟨b, o, none⟩ = wr.frozen? ⟨b, o, none⟩ := fun b o h => hb.frozen (p := ⟨b, o, none⟩) h
  have e0 : (wr.setCell ⟨B1 + 1, 1, none⟩ u).cell? ⟨B1 + 1, 0, none⟩ = some (.int .i64 (n - 1)) := by
    rw [← h.y0]; simp [go_sem]
  have e1 : (wr.setCell ⟨B1 + 1, 1, none⟩ u).cell? ⟨B1 + 1, 1, none⟩ = some u := by
    simp [go_sem, h.y1]
  have e2 : (wr.setCell ⟨B1 + 1, 1, none⟩ u).frozen? ⟨B1 + 1, 1, none⟩ = false := by
    rw [← h.y2]; simp [go_sem]
  exact ⟨h.L.step hb (by omega), (cc _ _ (by omega)).trans h.r0, (cc _ _ (by omega)).trans h.r1, (ff _ _ (by omega)).trans h.q0, (ff _ _ (by omega)).trans h.q1,
    (cc _ _ (by omega)).trans h.x0, (cc _ _ (by omega)).trans h.x1, e0, e1, e2, o1, by simpa [World.setCell] using o2⟩

/-- Two integers in a row of the call's own. -/
def Two (w : World) (base nb : Nat) (a b : Int) : Prop := w.ownsRow base 3 1 (.slice (some ⟨nb, 0, none⟩) 2 2) 2 [.int .i64 a, .int .i64 b]
theorem Two.c0 {w : World} {base nb : Nat} {a b : Int} (h : Two w base nb a b) : w.cell? ⟨nb, 0, none⟩ = some (.int .i64 a) := World.ownsRow.cellAt h 0 (by omega)
theorem Two.c1 {w : World} {base nb : Nat} {a b : Int} (h : Two w base nb a b) : w.cell? ⟨nb, 1, none⟩ = some (.int .i64 b) := World.ownsRow.cellAt h 1 (by omega)
theorem Two.frozen {w : World} {base nb : Nat} {a b : Int} (h : Two w base nb a b) (k : Nat) : w.frozen? ⟨nb, k, none⟩ = false := World.ownsRow.frozenAt h k
theorem Two.s0 {w : World} {base nb : Nat} {a b : Int} (h : Two w base nb a b) (x : Int) : Two (w.setCell ⟨nb, 0, none⟩ (.int .i64 x)) base nb x b := (World.ownsRow.stored h 0 (.int .i64 x)).1
theorem Two.s1 {w : World} {base nb : Nat} {a b : Int} (h : Two w base nb a b) (x : Int) : Two (w.setCell ⟨nb, 1, none⟩ (.int .i64 x)) base nb a x := (World.ownsRow.stored h 1 (.int .i64 x)).1
theorem Two.box (w : World) {base : Nat} (a b : Int) (hb : base ≤ w.heap.size) : Two (w.alloc (.cells #[.int .i64 a, .int .i64 b] 3)) base w.heap.size a b :=
  ⟨rfl, .inr ⟨w.heap.size, 2, _, rfl, hb, heap_alloc_new w _, Nat.le_refl _, by decide, rfl, rfl⟩⟩
theorem Two.below {w w' : World} {base nb B : Nat} {a b : Int} (h : Two w base nb a b) (hb : Below B w w') (hB : nb < B) : Two w' base nb a b := by
  rcases h.2 with ⟨hv, _⟩ | ⟨g', cap, cur, hv, hb', hh, h3⟩
  · cases hv
  · have hg : g' = nb := by injection hv with h1 _ _; injection h1 with h1; injection h1 with h1; exact h1.symm
    subst hg
    exact ⟨h.1, .inr ⟨g', cap, cur, hv, hb', (hb.block g' hB).trans hh, h3⟩⟩

end Go.Proofs.Ytdacfeebidhgnaa
