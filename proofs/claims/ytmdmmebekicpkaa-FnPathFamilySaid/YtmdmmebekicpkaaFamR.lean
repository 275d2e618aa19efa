/- A family in a box, to be read. -/
import Derived.Test.YtmdmmebekicpkaaFamO
import Derived.Test.YtmdmmebekicpkaaSameFam
namespace Go.Proofs.Ytmdmmebekicpkaa
open Go.RowKit
set_option maxRecDepth 100000

structure FamRd (u : World) (bx : Nat) (t : Int) (A : Option Addr) (m c : Nat) (xs : List Int) : Prop where
  c0 : u.cell? ⟨bx, 0, none⟩ = some (.int .i64 t)
  c1 : u.cell? ⟨bx, 1, none⟩ = some (.slice A m c)
  ints : IntsIn u u.heap.size A xs
  lt : bx < u.heap.size
section
variable {u u' : World} {bx : Nat} {t : Int} {A : Option Addr} {m c : Nat} {xs : List Int}
theorem FamRd.next (h : FamRd u bx t A m c xs) (hb : Below u.heap.size u u') : FamRd u' bx t A m c xs :=
  ⟨(hb.cell (p := ⟨bx, 0, none⟩) h.lt).trans h.c0, (hb.cell (p := ⟨bx, 1, none⟩) h.lt).trans h.c1, (h.ints.below hb (Nat.le_refl _)).more hb.size, Nat.lt_of_lt_of_le h.lt hb.size⟩
theorem FamRd.drew (h : FamRd u bx t A m c xs) : FamRd u.drew bx t A m c xs := h.next ((Below.refl _ _).drew)
theorem FamRd.alloc (h : FamRd u bx t A m c xs) (o : Obj) : FamRd (u.alloc o) bx t A m c xs := h.next ((Below.refl _ _).alloc (Nat.le_refl _) o)
theorem FamRd.start (ty : TypeId) (h : IntsIn u u.heap.size A xs) : FamRd (u.alloc (.cells #[.int .i64 t, .slice A m c] ty)) u.heap.size t A m c xs :=
  ⟨by rw [World.cell?_alloc_at _ _ _ _ rfl]; rfl, by rw [World.cell?_alloc_at _ _ _ _ rfl]; rfl, (h.alloc (Nat.le_refl _) _).more (by simp), by simp⟩
end
end Go.Proofs.Ytmdmmebekicpkaa
