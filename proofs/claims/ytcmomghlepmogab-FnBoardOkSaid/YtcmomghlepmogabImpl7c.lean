/- Areas of the program: sides, and what leads from one set of spots to another one. -/
import Derived.Test.YtcmomghlepmogabImpl7
import Derived.Test.YtcmomghlepmogabBitsU
namespace Go.Proofs.Ytcmomghlepmogab
open Go.RowKit
set_option maxRecDepth 100000

theorem onlyc_lt {c r : Nat} {x y : Int} (hc : c ≤ 4) (hr : r ≤ 4) : onlyN c r x y ≤ 32768 := by
  unfold onlyN
  split
  · rename_i h
    have hm : y.toNat * c ≤ 3 * 4 := Nat.mul_le_mul (by omega) hc
    have : y.toNat * c + x.toNat ≤ 15 := by omega
    exact Nat.pow_le_pow_right (n := 2) (by omega) this
  · omega
def colsN (c r : Nat) (x : Int) : Nat → Nat
  | 0 => 0
  | k + 1 => colsN c r x k ||| onlyN c r x (k : Nat)
def rowsN (c r : Nat) (y : Int) : Nat → Nat
  | 0 => 0
  | k + 1 => rowsN c r y k ||| onlyN c r (k : Nat) y
theorem colsN_lt {c r : Nat} {x : Int} (hc : c ≤ 4) (hr : r ≤ 4) : ∀ k, colsN c r x k < 2 ^ 16
  | 0 => by unfold colsN; omega
  | k + 1 => by
    unfold colsN
    have := onlyc_lt (c := c) (r := r) (x := x) (y := (k : Nat)) hc hr
    exact Nat.or_lt_two_pow (colsN_lt hc hr k) (by omega)
theorem rowsN_lt {c r : Nat} {y : Int} (hc : c ≤ 4) (hr : r ≤ 4) : ∀ k, rowsN c r y k < 2 ^ 16
  | 0 => by unfold rowsN; omega
  | k + 1 => by
    unfold rowsN
    have := onlyc_lt (c := c) (r := r) (x := (k : Nat)) (y := y) hc hr
    exact Nat.or_lt_two_pow (rowsN_lt hc hr k) (by omega)
theorem col_sides : ∀ c, c < 5 → ∀ r, r < 5 → 1 ≤ c → colsN c r 0 r = colL c r ∧ colsN c r ((c : Int) - 1) r = colR c r := by decide +kernel
theorem row_sides : ∀ c, c < 5 → ∀ r, r < 5 → 1 ≤ c → 1 ≤ r → rowsN c r 0 c = rowLow c ∧ rowsN c r ((r : Int) - 1) c = rowLow c * 2 ^ ((r - 1) * c) := by decide +kernel
structure AreaAt (w u : World) (b0 : Nat) (c r : Nat) : Prop where
  a0 : u.cell? ⟨b0, 0, none⟩ = some (.int .i64 c)
  a1 : u.cell? ⟨b0, 1, none⟩ = some (.int .i64 r)
  l0 : b0 < u.heap.size
  below : Below w.heap.size w u
theorem AreaAt.step {w u u' : World} {b0 c r : Nat} (h : AreaAt w u b0 c r) (hb : Below u.heap.size u u') : AreaAt w u' b0 c r :=
  ⟨(hb.cell h.l0).trans h.a0, (hb.cell h.l0).trans h.a1, Nat.lt_of_lt_of_le h.l0 hb.size, h.below.trans (hb.mono h.below.size)⟩
theorem AreaAt.start (w : World) (c r : Nat) (T : TypeId) : AreaAt w (w.alloc (.cells #[.int .i64 c, .int .i64 r] T)) w.heap.size c r :=
  ⟨by rw [World.cell?_alloc_at _ _ _ _ (by simp)]; rfl, by rw [World.cell?_alloc_at _ _ _ _ (by simp)]; rfl, by simp, (Below.refl _ _).alloc (by simp) _⟩

end Go.Proofs.Ytcmomghlepmogab
