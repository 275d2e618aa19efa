/- Boards of the program: which cells touch one. -/
import Derived.Test.YtcmomghlepmogaaImpl7
import Derived.Test.YtcmomghlepmogaaBitsU
import Derived.Deep.RegionHeld3
namespace Go.Proofs.Ytcmomghlepmogaa
open Go.RowKit
set_option maxRecDepth 100000

theorem only_lt {c r : Nat} {x y : Int} (hc : c ≤ 4) (hr : r ≤ 4) : onlyN c r x y ≤ 32768 := by
  unfold onlyN
  split
  · rename_i h
    have hm : y.toNat * c ≤ 3 * 4 := Nat.mul_le_mul (by omega) hc
    have : y.toNat * c + x.toNat ≤ 15 := by omega
    exact Nat.pow_le_pow_right (n := 2) (by omega) this
  · omega
theorem steps_lt {c r : Nat} {ps : List (Int × Int)} {x y : Int} (hc : c ≤ 4) (hr : r ≤ 4) : ∀ k, stepsN c r ps x y k < 2 ^ 16
  | 0 => by unfold stepsN; omega
  | k + 1 => by
    unfold stepsN
    have := only_lt (c := c) (r := r) (x := x + (ps.getD k (0, 0)).1) (y := y + (ps.getD k (0, 0)).2) hc hr
    exact Nat.or_lt_two_pow (steps_lt hc hr k) (by omega)

/-- What a walk over the steps from a spot lays hold of: the area, the spot, one step. -/
structure StepAt (w u : World) (b0 b1 b2 : Nat) (c r : Nat) (x y dx dy : Int) : Prop where
  a0 : u.cell? ⟨b0, 0, none⟩ = some (.int .i64 c)
  a1 : u.cell? ⟨b0, 1, none⟩ = some (.int .i64 r)
  s0 : u.cell? ⟨b1, 0, none⟩ = some (.int .i64 x)
  s1 : u.cell? ⟨b1, 1, none⟩ = some (.int .i64 y)
  d0 : u.cell? ⟨b2, 0, none⟩ = some (.int .i64 dx)
  d1 : u.cell? ⟨b2, 1, none⟩ = some (.int .i64 dy)
  l0 : b0 < u.heap.size
  l1 : b1 < u.heap.size
  l2 : b2 < u.heap.size
  below : Below w.heap.size w u
theorem StepAt.on {w u : World} {b0 b1 b2 c r : Nat} {x y dx dy : Int} (h : StepAt w u b0 b1 b2 c r x y dx dy) : ∀ w', Below u.heap.size u w' → StepAt w w' b0 b1 b2 c r x y dx dy := fun _ hb =>
  ⟨(hb.cell h.l0).trans h.a0, (hb.cell h.l0).trans h.a1, (hb.cell h.l1).trans h.s0, (hb.cell h.l1).trans h.s1, (hb.cell h.l2).trans h.d0, (hb.cell h.l2).trans h.d1,
    Nat.lt_of_lt_of_le h.l0 hb.size, Nat.lt_of_lt_of_le h.l1 hb.size, Nat.lt_of_lt_of_le h.l2 hb.size, h.below.trans (hb.mono h.below.size)⟩
theorem StepAt.drew {w u : World} {b0 b1 b2 c r : Nat} {x y dx dy : Int} (h : StepAt w u b0 b1 b2 c r x y dx dy) : StepAt w u.drew b0 b1 b2 c r x y dx dy := h.on _ ((Below.refl _ _).drew)
/-- The same, ahead of the step. -/
structure SpotAt (w u : World) (b0 b1 : Nat) (c r : Nat) (x y : Int) : Prop where
  a0 : u.cell? ⟨b0, 0, none⟩ = some (.int .i64 c)
  a1 : u.cell? ⟨b0, 1, none⟩ = some (.int .i64 r)
  s0 : u.cell? ⟨b1, 0, none⟩ = some (.int .i64 x)
  s1 : u.cell? ⟨b1, 1, none⟩ = some (.int .i64 y)
  l0 : b0 < u.heap.size
  l1 : b1 < u.heap.size
  below : Below w.heap.size w u
theorem SpotAt.step {w u : World} {b0 b1 c r : Nat} {x y dx dy : Int} (T : TypeId) (h : SpotAt w u b0 b1 c r x y) : StepAt w (u.alloc (.cells #[.int .i64 dx, .int .i64 dy] T)) b0 b1 u.heap.size c r x y dx dy :=
  ⟨(World.cell?_alloc_past _ _ _ (by have := h.l0; simp; omega)).trans h.a0, (World.cell?_alloc_past _ _ _ (by have := h.l0; simp; omega)).trans h.a1,
    (World.cell?_alloc_past _ _ _ (by have := h.l1; simp; omega)).trans h.s0, (World.cell?_alloc_past _ _ _ (by have := h.l1; simp; omega)).trans h.s1,
    by rw [World.cell?_alloc_at _ _ _ _ (by simp)]; rfl, by rw [World.cell?_alloc_at _ _ _ _ (by simp)]; rfl,
    by have := h.l0; simp; omega, by have := h.l1; simp; omega, by simp, h.below.alloc h.below.size _⟩
theorem SpotAt.start (w : World) (c r : Nat) (x y : Int) (T T' : TypeId) : SpotAt w ((w.alloc (.cells #[.int .i64 c, .int .i64 r] T)).alloc (.cells #[.int .i64 x, .int .i64 y] T')) w.heap.size (w.heap.size + 1) c r x y :=
  ⟨by rw [World.cell?_alloc_past _ _ _ (by simp), World.cell?_alloc_at _ _ _ _ (by simp)]; rfl, by rw [World.cell?_alloc_past _ _ _ (by simp), World.cell?_alloc_at _ _ _ _ (by simp)]; rfl,
    by rw [World.cell?_alloc_at _ _ _ _ (by simp)]; rfl, by rw [World.cell?_alloc_at _ _ _ _ (by simp)]; rfl, by simp; omega, by simp, ((Below.refl _ _).alloc (by simp) _).alloc (by simp) _⟩
theorem StepAt.spot {w u : World} {b0 b1 b2 c r : Nat} {x y dx dy : Int} (h : StepAt w u b0 b1 b2 c r x y dx dy) : SpotAt w u b0 b1 c r x y := ⟨h.a0, h.a1, h.s0, h.s1, h.l0, h.l1, h.below⟩

end Go.Proofs.Ytcmomghlepmogaa
