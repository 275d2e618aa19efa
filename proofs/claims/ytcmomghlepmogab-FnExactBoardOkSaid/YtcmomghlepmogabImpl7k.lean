/- Grids of the program: edges in rows and columns, and between two spots. -/
import Derived.Test.YtcmomghlepmogabImpl7b
import Derived.Test.YtcmomghlepmogabImpl7c
import Derived.Test.YtcmomghlepmogabSides7
import Derived.Test.YtcmomghlepmogabSpec7g
import Derived.Test.YtcmomghlepmogabSets
namespace Go.Proofs.Ytcmomghlepmogab
open Go.RowKit
set_option maxRecDepth 100000

theorem SpotAt.on {w u : World} {b0 b1 c r : Nat} {x y : Int} (h : SpotAt w u b0 b1 c r x y) : ∀ w', Below u.heap.size u w' → SpotAt w w' b0 b1 c r x y := fun _ hb =>
  ⟨(hb.cell h.l0).trans h.a0, (hb.cell h.l0).trans h.a1, (hb.cell h.l1).trans h.s0, (hb.cell h.l1).trans h.s1, Nat.lt_of_lt_of_le h.l0 hb.size, Nat.lt_of_lt_of_le h.l1 hb.size, h.below.trans (hb.mono h.below.size)⟩
theorem SpotAt.drew {w u : World} {b0 b1 c r : Nat} {x y : Int} (h : SpotAt w u b0 b1 c r x y) : SpotAt w u.drew b0 b1 c r x y := h.on _ ((Below.refl _ _).drew)
theorem AreaAt.drew {w u : World} {b0 c r : Nat} (h : AreaAt w u b0 c r) : AreaAt w u.drew b0 c r := h.step ((Below.refl _ _).drew)

end Go.Proofs.Ytcmomghlepmogab

/- Grids of the program: the edge between two points, and between two fields. -/
namespace Go.Proofs.Ytcmomghlepmogab
open Go.RowKit
set_option linter.unusedVariables false
set_option maxRecDepth 100000

/-- Three pairs in cells of the call's own. -/
theorem three_cells (v : World) (a b c d e f : Int) (T T1 T2 : TypeId) : ∀ u, u = ((v.alloc (.cells #[.int .i64 a, .int .i64 b] T)).alloc (.cells #[.int .i64 c, .int .i64 d] T1)).alloc (.cells #[.int .i64 e, .int .i64 f] T2) →
    (u.cell? ⟨v.heap.size, 0, none⟩ = some (.int .i64 a) ∧ u.cell? ⟨v.heap.size, 1, none⟩ = some (.int .i64 b)) ∧ (u.cell? ⟨v.heap.size + 1, 0, none⟩ = some (.int .i64 c) ∧ u.cell? ⟨v.heap.size + 1, 1, none⟩ = some (.int .i64 d)) ∧
    (u.cell? ⟨v.heap.size + 1 + 1, 0, none⟩ = some (.int .i64 e) ∧ u.cell? ⟨v.heap.size + 1 + 1, 1, none⟩ = some (.int .i64 f)) ∧ Below v.heap.size v u := by
  rintro u rfl
  refine ⟨⟨?_, ?_⟩, ⟨?_, ?_⟩, ⟨?_, ?_⟩, (((Below.refl _ _).alloc (by simp) _).alloc (by simp) _).alloc (by simp; omega) _⟩
  · rw [World.cell?_alloc_past _ _ _ (by simp; omega), World.cell?_alloc_past _ _ _ (by simp), World.cell?_alloc_at _ _ _ _ (by simp)]; rfl
  · rw [World.cell?_alloc_past _ _ _ (by simp; omega), World.cell?_alloc_past _ _ _ (by simp), World.cell?_alloc_at _ _ _ _ (by simp)]; rfl
  · rw [World.cell?_alloc_past _ _ _ (by simp), World.cell?_alloc_at _ _ _ _ (by simp)]; rfl
  · rw [World.cell?_alloc_past _ _ _ (by simp), World.cell?_alloc_at _ _ _ _ (by simp)]; rfl
  · rw [World.cell?_alloc_at _ _ _ _ (by simp)]; rfl
  · rw [World.cell?_alloc_at _ _ _ _ (by simp)]; rfl

end Go.Proofs.Ytcmomghlepmogab

/- Grids of the program: what open edges lead to. -/
namespace Go.Proofs.Ytcmomghlepmogab
open Go.RowKit
set_option linter.unusedVariables false
set_option maxRecDepth 100000

theorem StepAt.cells {w u : World} {b0 b1 b2 c r : Nat} {x y dx dy : Int} (h : StepAt w u b0 b1 b2 c r x y dx dy) : (u.cell? ⟨b0, 0, none⟩ = some (.int .i64 c) ∧ u.cell? ⟨b0, 1, none⟩ = some (.int .i64 r)) ∧ (u.cell? ⟨b1, 0, none⟩ = some (.int .i64 x) ∧ u.cell? ⟨b1, 1, none⟩ = some (.int .i64 y)) ∧ u.cell? ⟨b2, 0, none⟩ = some (.int .i64 dx) ∧ u.cell? ⟨b2, 1, none⟩ = some (.int .i64 dy) := ⟨⟨h.a0, h.a1⟩, ⟨h.s0, h.s1⟩, h.d0, h.d1⟩
theorem sideN_lt16 {c r : Nat} {O : Int → Int → Option Nat} {K : Nat} {ps : List (Int × Int)} {x y : Int} (hc : c ≤ 4) (hr : r ≤ 4) (k : Nat) : sideN c r O K ps x y k < 2 ^ 16 :=
  Nat.lt_of_lt_of_le (side_lt k) (Nat.pow_le_pow_right (by omega) (show c * r ≤ 4 * 4 from Nat.mul_le_mul hc hr))

end Go.Proofs.Ytcmomghlepmogab

/- Grids of the program: LeadsOk, PassesOk, CountLeads. -/
namespace Go.Proofs.Ytcmomghlepmogab
open Go.RowKit
set_option linter.unusedVariables false
set_option maxRecDepth 100000

def obP (w h x y x' y' : Nat) : Bool := decide (setO (ptO w h x y (x' : Nat) (y' : Nat)) < 65536)
def obF (w h x y x' y' : Nat) : Bool := decide (setO (fdO w h x y (x' : Nat) (y' : Nat)) < 65536)
theorem obP_all : ∀ w, w < 5 → ∀ h, h < 4 → ∀ x, x < w → ∀ y, y < h → ∀ x', x' < w → ∀ y', y' < h → obP w h x y x' y' = true := by decide +kernel
theorem obF_all : ∀ w, w < 5 → ∀ h, h < 4 → ∀ x, x < w - 1 → ∀ y, y < h + 1 → ∀ x', x' < w - 1 → ∀ y', y' < h + 1 → obF w h x y x' y' = true := by decide +kernel

/-- What an open walk's next spots are told by: the area, the open edges, the function between, one spot. -/
structure OpenAt (w u : World) (b0 b1 b2 c r K : Nat) (fv : Value) : Prop where
  a0 : u.cell? ⟨b0, 0, none⟩ = some (.int .i64 c)
  a1 : u.cell? ⟨b0, 1, none⟩ = some (.int .i64 r)
  k0 : u.cell? ⟨b1, 0, none⟩ = some (.int .u64 K)
  f0 : u.cell? ⟨b2, 0, none⟩ = some fv
  l0 : b0 < u.heap.size
  l1 : b1 < u.heap.size
  l2 : b2 < u.heap.size
  below : Below w.heap.size w u
theorem OpenAt.on {w u : World} {b0 b1 b2 c r K : Nat} {fv : Value} (h : OpenAt w u b0 b1 b2 c r K fv) : ∀ w', Below u.heap.size u w' → OpenAt w w' b0 b1 b2 c r K fv := fun _ hb =>
  ⟨(hb.cell h.l0).trans h.a0, (hb.cell h.l0).trans h.a1, (hb.cell h.l1).trans h.k0, (hb.cell h.l2).trans h.f0,
    Nat.lt_of_lt_of_le h.l0 hb.size, Nat.lt_of_lt_of_le h.l1 hb.size, Nat.lt_of_lt_of_le h.l2 hb.size, h.below.trans (hb.mono h.below.size)⟩
theorem OpenAt.start (w : World) (c r K : Nat) (fv : Value) (T T1 T2 : TypeId) : OpenAt w (((w.alloc (.cells #[.int .i64 c, .int .i64 r] T)).alloc (.cells #[.int .u64 K] T1)).alloc (.cells #[fv] T2)) w.heap.size (w.heap.size + 1) (w.heap.size + 1 + 1) c r K fv :=
  ⟨by rw [World.cell?_alloc_past _ _ _ (by simp; omega), World.cell?_alloc_past _ _ _ (by simp), World.cell?_alloc_at _ _ _ _ (by simp)]; rfl,
    by rw [World.cell?_alloc_past _ _ _ (by simp; omega), World.cell?_alloc_past _ _ _ (by simp), World.cell?_alloc_at _ _ _ _ (by simp)]; rfl,
    by rw [World.cell?_alloc_past _ _ _ (by simp), World.cell?_alloc_at _ _ _ _ (by simp)]; rfl, by rw [World.cell?_alloc_at _ _ _ _ (by simp)]; rfl,
    by simp <;> omega, by simp <;> omega, by simp, (((Below.refl _ _).alloc (by simp) _).alloc (by simp) _).alloc (by simp; omega) _⟩

theorem notk_key : ∀ S : Nat, S < 8192 → Go.bits .xor .u64 (if IntKind.u64.signed = true then -1 else IntKind.u64.max) (S : Int) = ((notU S : Nat) : Int) :=
  all13 (by decide +kernel) (by decide +kernel) (by decide +kernel) (by decide +kernel) (by decide +kernel) (by decide +kernel) (by decide +kernel) (by decide +kernel)

end Go.Proofs.Ytcmomghlepmogab
