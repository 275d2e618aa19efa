/- Grids of the reference: LeadsOk, PassesOk, CountLeads. -/
import Derived.Test.YtcmomghlepmogabDoorSpec7d
import Derived.Test.YtcmomghlepmogabDoorSpecCnt
namespace Go.Proofs.YtcmomghlepmogabDoor
open Go.RowKit
set_option maxRecDepth 100000

theorem RRows.congr {u : World} {base : Nat} {OA : Option Addr} {k oc m : Nat} {F F' : Nat → List Int} (h : RRows u base OA k oc m F) (he : ∀ j, j < k → F j = F' j) : RRows u base OA k oc m F' := by
  obtain ⟨vs, hl, ho, hr⟩ := h
  refine ⟨vs, hl, ho, fun j hj => ?_⟩
  obtain ⟨b, c, h1, h2, h3, h4, h5⟩ := hr j hj
  exact ⟨b, c, h1, h2, h3, h4, by rw [← he j hj]; exact h5⟩
theorem RRows.empty (w : World) (base m : Nat) (F : Nat → List Int) (hb : base ≤ w.heap.size) : RRows (w.alloc (.cells #[] 55)) base (some ⟨w.heap.size, 0, none⟩) 0 0 m F :=
  ⟨[], rfl, ⟨rfl, .inr ⟨w.heap.size, 0, #[], rfl, hb, heap_alloc_new w _, Nat.le_refl _, by decide, rfl, rfl⟩⟩, fun j hj => by omega⟩
/-- What stands in the loops: the row of what is reached, and the row of pairs. -/
structure PairSt (w u : World) (gd n c D : Nat) (OA : Option Addr) (oc : Nat) (ps : List (Nat × Nat)) : Prop where
  own : OwnB u w.heap.size gd n c D
  rows : RRows u (gd + 1) OA ps.length oc 2 (pairF ps)
  bel : Below w.heap.size w u
theorem pairF_more {ps : List (Nat × Nat)} {e : Nat × Nat} {j : Nat} (hj : j < ps.length) : pairF ps j = pairF (ps ++ [e]) j := by
  unfold pairF
  have : (ps ++ [e]).getD j (0, 0) = ps.getD j (0, 0) := by simp [List.getD, List.getElem?_append_left hj]
  rw [this]
theorem pairF_last {ps : List (Nat × Nat)} {a b : Nat} : pairF (ps ++ [(a, b)]) ps.length = [(a : Int), (b : Int)] := by
  unfold pairF
  have : (ps ++ [(a, b)]).getD ps.length (0, 0) = (a, b) := by simp [List.getD]
  rw [this]
/-- A pair more: two cells for it, one for its row, and the longer row of rows. -/
theorem PairSt.push {w u w5 : World} {gd n c D k : Nat} {OA : Option Addr} {oc gg cc : Nat} {ps : List (Nat × Nat)} {a b : Nat} {vs : List Value} {T T' : TypeId} (hk : ps.length = k)
    (own : OwnB u w.heap.size gd n c D) (bel : Below w.heap.size w u) (hl : vs.length = k) (ho : u.ownsRow (gd + 1) 55 1 (.slice OA k oc) k vs)
    (hr : ∀ j, j < k → ∃ b c, vs[j]? = some (.slice (some ⟨b, 0, none⟩) 2 c) ∧ gd + 1 ≤ b ∧ (Value.slice OA k oc).ownBlock ≠ some b ∧ b < u.heap.size ∧ IntsIn u u.heap.size (some ⟨b, 0, none⟩) (pairF ps j))
    (hown : w5.ownsRow (gd + 1) 55 1 (.slice (some ⟨gg, 0, none⟩) (k + 1) cc) (k + 1) (vs ++ [.slice (some ⟨u.heap.size, 0, none⟩) 2 2]))
    (hg : ((u.alloc (.cells #[.int .i64 (a : Nat), .int .i64 (b : Nat)] T')).alloc (.cells #[.slice (some ⟨u.heap.size, 0, none⟩) 2 2] T)).grownBy w5 (Value.slice OA k oc).ownBlock)
    (hat : (Value.slice OA k oc).ownBlock = some gg ∨ gg = ((u.alloc (.cells #[.int .i64 (a : Nat), .int .i64 (b : Nat)] T')).alloc (.cells #[.slice (some ⟨u.heap.size, 0, none⟩) 2 2] T)).heap.size) :
    PairSt w w5 gd n c D (some ⟨gg, 0, none⟩) cc (ps ++ [(a, b)]) := by
  subst hk
  have hgd := own.lt
  have hA := (Below.refl u.heap.size u).alloc (Nat.le_refl _) (.cells #[.int .i64 (a : Nat), .int .i64 (b : Nat)] T')
  have hob := fun j hj => (World.ownsRow.lt ho j hj)
  have own4 := own.next hA
  have hs4 : (u.alloc (.cells #[.int .i64 (a : Nat), .int .i64 (b : Nat)] T')).heap.size = u.heap.size + 1 := by simp
  have i4 : IntsIn (u.alloc (.cells #[.int .i64 (a : Nat), .int .i64 (b : Nat)] T')) (u.alloc (.cells #[.int .i64 (a : Nat), .int .i64 (b : Nat)] T')).heap.size (some ⟨u.heap.size, 0, none⟩) (pairF (ps ++ [(a, b)]) ps.length) := by
    rw [pairF_last]
    intro k x hk
    have hk2 : k < 2 := (List.getElem?_eq_some_iff.1 hk).1
    refine ⟨u.heap.size, 0, rfl, by omega, ?_⟩
    rw [World.cell?_alloc_at _ _ _ _ rfl]
    rcases (show k = 0 ∨ k = 1 by omega) with rfl | rfl <;> simp at hk <;> subst hk <;> rfl
  have R := rows_grow (w4 := u.alloc (.cells #[.int .i64 (a : Nat), .int .i64 (b : Nat)] T')) (cc := cc) (F := pairF (ps ++ [(a, b)])) (k4 := 2) (g4 := u.heap.size) (T := T) (ownsRow_next ho hA) hl
    (fun j hj => by
      obtain ⟨b', c', h1, h2, h3, h4, h5⟩ := hr j hj
      exact ⟨b', c', h1, h2, h3, by omega, by rw [← pairF_more hj]; exact (h5.below hA (Nat.le_refl _)).more (by omega)⟩)
    (fun j hj => (hob j hj).2) (by omega) (by omega) i4 hown hg hat
  refine ⟨?_, by rw [List.length_append]; exact R, ?_⟩
  · have hB := (Below.refl _ _).alloc (Nat.le_refl _) (.cells #[.slice (some ⟨u.heap.size, 0, none⟩) 2 2] T) (w := u.alloc (.cells #[.int .i64 (a : Nat), .int .i64 (b : Nat)] T')) 
    exact (own4.next hB).grown hg fun e => by have := (hob gd e).1; omega
  · have h1 : Below w.heap.size w ((u.alloc (.cells #[.int .i64 (a : Nat), .int .i64 (b : Nat)] T')).alloc (.cells #[.slice (some ⟨u.heap.size, 0, none⟩) 2 2] T)) := (bel.alloc bel.size _).alloc (by have := bel.size; simp; omega) _
    have hge := own.ge
    exact h1.grown hg (by have := bel.size; simp; omega) (fun j hj => by have := (hob j hj).1; omega)

def edgeB (s w h : Int) : Bool := gridOkB w h && inB s ((2 ^ gridE w.toNat h.toNat : Nat) : Int)
def leadsI (s w h : Int) : Bool := edgeB s w h && leadsN w.toNat h.toNat s.toNat
def passesI (s w h : Int) : Bool := edgeB s w h && passesN w.toNat h.toNat s.toNat
theorem col_step : ∀ c, c < 5 → ∀ k, k < 3 → 1 ≤ c → (colL c k ||| 2 ^ (k * c) = colL c (k + 1)) := by decide +kernel
theorem lens_small : ∀ w, w < 5 → ∀ h, h < 4 → w * h ≤ 12 ∧ (w - 1) * (h + 1) ≤ 12 := by decide
theorem cell_len (w h s y x : Nat) : (cellL w h s y x).length ≤ 2 := by
  unfold cellL
  cases c1L w s y x <;> cases c2L w h s y x <;> simp
theorem row_len (w h s y : Nat) : ∀ n, (rowTo w h s y n).length ≤ n * 2
  | 0 => by simp [rowTo]
  | n + 1 => by have := row_len w h s y n; have := cell_len w h s y n; rw [rowTo, List.length_append]; omega
theorem all_len (w h s : Nat) : ∀ n, (allL w h s n).length ≤ n * (w * 2)
  | 0 => by simp [allL]
  | n + 1 => by have := all_len w h s n; have := row_len w h s n w; rw [allL, List.length_append, Nat.add_mul]; omega
theorem cellP_len (w h s y x : Nat) : (cellP w h s x y).length ≤ 2 := by
  unfold cellP
  cases d1L w s x y <;> cases d2L w h s x y <;> simp
theorem colTo_len (w h s x : Nat) : ∀ n, (colTo w h s x n).length ≤ n * 2
  | 0 => by simp [colTo]
  | n + 1 => by have := colTo_len w h s x n; have := cellP_len w h s n x; rw [colTo, List.length_append]; omega
theorem allP_len (w h s : Nat) : ∀ n, (allP w h s n).length ≤ n * (h * 2)
  | 0 => by simp [allP]
  | n + 1 => by have := allP_len w h s n; have := colTo_len w h s n h; rw [allP, List.length_append, Nat.add_mul]; omega
/-- Whether one of the first so many has its bit. -/
def orTo (D : Nat) (f : Nat → Nat) : Nat → Bool
  | 0 => false
  | y + 1 => orTo D f y || D.testBit (f y)
theorem orTo_iff (D : Nat) (f : Nat → Nat) : ∀ n, orTo D f n = true ↔ ∃ y, y < n ∧ D.testBit (f y) = true
  | 0 => by simp [orTo]
  | n + 1 => by
    rw [orTo, Bool.or_eq_true, orTo_iff D f n]
    constructor
    · rintro (⟨y, h1, h2⟩ | h)
      · exact ⟨y, by omega, h2⟩
      · exact ⟨n, by omega, h⟩
    · rintro ⟨y, h1, h2⟩
      by_cases e : y = n
      · subst e; exact .inr h2
      · exact .inl ⟨y, by omega, h2⟩
theorem orTo_mask {D t n : Nat} {f : Nat → Nat} (ht : ∀ i, t.testBit i = true ↔ ∃ y, y < n ∧ i = f y) : (!(D &&& t == 0)) = orTo D f n := by
  rw [Bool.eq_iff_iff, orTo_iff, Bool.not_eq_true', and_zero]
  constructor
  · rintro ⟨i, h1, h2⟩
    obtain ⟨y, hy, rfl⟩ := (ht i).1 h2
    exact ⟨y, hy, h1⟩
  · rintro ⟨y, hy, h1⟩
    exact ⟨f y, h1, (ht _).2 ⟨y, hy, rfl⟩⟩
theorem right_bits {w h : Nat} (hw : 2 ≤ w ∧ w ≤ 4) (hh : 1 ≤ h ∧ h ≤ 3) (i : Nat) : (colR w h).testBit i = true ↔ ∃ y, y < h ∧ i = y * w + w - 1 := by
  have H : ∀ w, w < 5 → ∀ h, h < 4 → 1 ≤ w → colR w h < 2 ^ 12 ∧ ∀ i, i < 12 → ((colR w h).testBit i = true ↔ ∃ y, y < h ∧ i = y * w + w - 1) := by decide +kernel
  obtain ⟨h1, h2⟩ := H w (by omega) h (by omega) (by omega)
  by_cases hi : i < 12
  · exact h2 i hi
  · constructor
    · intro hb; exact absurd (bit_below h1 hb) hi
    · rintro ⟨y, hy, e⟩
      have := (lens_small w (by omega) h (by omega)).1
      have h3 := place_lt (w := w) (h := h) (y := y) (x := w - 1) (by omega) hy
      omega
theorem top_bits {w h : Nat} (hw : 2 ≤ w ∧ w ≤ 4) (hh : 1 ≤ h ∧ h ≤ 3) (i : Nat) : (fdT w h).testBit i = true ↔ ∃ x, x < w - 1 ∧ i = h * (w - 1) + x := by
  have H : ∀ w, w < 5 → ∀ h, h < 4 → fdT w h < 2 ^ 12 ∧ ∀ i, i < 12 → ((fdT w h).testBit i = true ↔ ∃ x, x < w - 1 ∧ i = h * (w - 1) + x) := by decide +kernel
  obtain ⟨h1, h2⟩ := H w (by omega) h (by omega)
  by_cases hi : i < 12
  · exact h2 i hi
  · constructor
    · intro hb; exact absurd (bit_below h1 hb) hi
    · rintro ⟨x, hx, e⟩
      have := (lens_small w (by omega) h (by omega)).2
      have h3 := place_lt (w := w - 1) (h := h + 1) (y := h) (x := x) hx (by omega)
      omega

end Go.Proofs.YtcmomghlepmogabDoor
