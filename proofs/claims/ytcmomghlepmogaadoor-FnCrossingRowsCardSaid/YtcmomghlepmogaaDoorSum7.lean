/- Sums of the counts of grids, and what their laws ask. -/
import Derived.Test.YtcmomghlepmogaaDoorIs7
import Derived.Test.YtcmomghlepmogaaDoorChoose
import Derived.Test.YtcmomghlepmogaaDoorObj
namespace Go.Proofs.YtcmomghlepmogaaDoor
open Go.RowKit
set_option maxRecDepth 100000

/-- An empty row was given back. -/
def GotNo (w : World) (e : Ending) (w' : World) : Prop := ∃ A c, e = .returned (.slice A 0 c) ∧ Below w.heap.size w w'
theorem GotInts.no {w w' : World} {e : Ending} (h : GotInts w [] e w') : GotNo w e w' := by
  obtain ⟨A, c, h1, _, h3⟩ := h
  exact ⟨A, c, h1, h3⟩
/-- The sum of the first so many. -/
def sT (T : List Nat) : Nat → Nat
  | 0 => 0
  | k + 1 => sT T k + T.getD k 0
theorem tab_facts {C R : Nat} (hc : 2 ≤ C ∧ C ≤ 4) (hr : 1 ≤ R ∧ R ≤ 3) : (tabL C R).length = gridE C R + 1 ∧ (∀ k, k < 14 → (tabL C R).getD k 0 ≤ 8192) ∧ sT (tabL C R) (gridE C R + 1) ≤ 8192 ∧ 1 ≤ sT (tabL C R) (gridE C R + 1) := by
  rcases (show C = 2 ∨ C = 3 ∨ C = 4 by omega) with rfl | rfl | rfl <;> rcases (show R = 1 ∨ R = 2 ∨ R = 3 by omega) with rfl | rfl | rfl <;> decide +kernel
theorem tab_square {C R : Nat} (hc : 2 ≤ C ∧ C ≤ 4) (hr : 1 ≤ R ∧ R ≤ 3) (h : C = R + 1) : (∀ k, k < gridE C R + 1 → (tabL C R).getD k 0 + (tabL C R).getD (gridE C R - k) 0 = chs (gridE C R) k) ∧ 2 * sT (tabL C R) (gridE C R + 1) = 2 ^ gridE C R := by
  rcases (show R = 1 ∨ R = 2 ∨ R = 3 by omega) with rfl | rfl | rfl <;> subst h <;> decide +kernel
theorem tab_less {C R : Nat} (hc : 3 ≤ C ∧ C ≤ 4) (hr : 1 ≤ R ∧ R ≤ 3) : sT (tabL C R) (gridE C R + 1) ≤ sT (tabL (C - 1) R) (gridE (C - 1) R + 1) * 2 ^ (gridE C R - gridE (C - 1) R) ∧ gridE (C - 1) R ≤ gridE C R := by
  rcases (show C = 3 ∨ C = 4 by omega) with rfl | rfl <;> rcases (show R = 1 ∨ R = 2 ∨ R = 3 by omega) with rfl | rfl | rfl <;> decide +kernel
theorem natI_at (T : List Nat) {k : Nat} (hk : k < T.length) : (T.map Int.ofNat).getD k 0 = ((T.getD k 0 : Nat) : Int) := by simp [List.getD, hk]
theorem sT_le {T : List Nat} (h : ∀ k, k < 14 → T.getD k 0 ≤ 8192) : ∀ m, m ≤ 14 → sT T m ≤ m * 8192
  | 0, _ => by simp [sT]
  | m + 1, hm => by
    have h1 := sT_le h m (by omega)
    have h2 := h m (by omega)
    rw [sT, Nat.succ_mul]; omega
/-- A row of so many numbers in block g, of the call's own, and all else as it was. -/
def RowOf (w : World) (g m c : Nat) (xs : List Int) (u : World) : Prop := OwnI u w.heap.size (.slice (some ⟨g, 0, none⟩) m c) xs ∧ Below w.heap.size w u
theorem RowOf.on {w u : World} {g m c : Nat} {xs : List Int} (h : RowOf w g m c xs u) : ∀ w', Below u.heap.size u w' → RowOf w g m c xs w' := fun _ hb => ⟨h.1.below hb h.1.lt, h.2.trans (hb.mono h.2.size)⟩
theorem RowOf.drew {w u : World} {g m c : Nat} {xs : List Int} (h : RowOf w g m c xs u) : RowOf w g m c xs u.drew := ⟨h.1.drew, h.2.drew⟩
theorem RowOf.drewN {w u : World} {g m c : Nat} {xs : List Int} (h : RowOf w g m c xs u) (k : Nat) : RowOf w g m c xs (u.drewN k) := ⟨h.1.drewN k, belowN h.2 k⟩
theorem GotInts.rowOf {w0 w w' : World} {m : Nat} {xs : List Int} {e : Ending} (hb : Below w0.heap.size w0 w) (hl : xs.length = m + 1) (h : GotInts w xs e w') : ∃ g c, e = .returned (.slice (some ⟨g, 0, none⟩) (m + 1) c) ∧ RowOf w0 g (m + 1) c xs w' := by
  obtain ⟨g, c, rfl, own, hb2⟩ := h.row hl
  exact ⟨g, c, rfl, own.more hb.size, hb.trans (hb2.mono hb.size)⟩
end Go.Proofs.YtcmomghlepmogaaDoor
