/- Grids of the reference: LeadsOk, PassesOk, CountLeads. -/
import Derived.Test.YtcmomghlepmogaaSpec7d
import Derived.Test.YtcmomghlepmogaaSpecCnt
namespace Go.Proofs.Ytcmomghlepmogaa
open Go.RowKit
set_option maxRecDepth 100000

theorem pairF_more {ps : List (Nat × Nat)} {e : Nat × Nat} {j : Nat} (hj : j < ps.length) : pairF ps j = pairF (ps ++ [e]) j := by
  unfold pairF
  have : (ps ++ [e]).getD j (0, 0) = ps.getD j (0, 0) := by simp [List.getD, List.getElem?_append_left hj]
  rw [this]
theorem pairF_last {ps : List (Nat × Nat)} {a b : Nat} : pairF (ps ++ [(a, b)]) ps.length = [(a : Int), (b : Int)] := by
  unfold pairF
  have : (ps ++ [(a, b)]).getD ps.length (0, 0) = (a, b) := by simp [List.getD]
  rw [this]
def edgeB (s w h : Int) : Bool := gridOkB w h && inB s ((2 ^ gridE w.toNat h.toNat : Nat) : Int)
def leadsI (s w h : Int) : Bool := edgeB s w h && leadsN w.toNat h.toNat s.toNat
def passesI (s w h : Int) : Bool := edgeB s w h && passesN w.toNat h.toNat s.toNat
theorem col_step : ∀ c, c < 5 → ∀ k, k < 3 → 1 ≤ c → (colL c k ||| 2 ^ (k * c) = colL c (k + 1)) := by decide +kernel
theorem lens_small : ∀ w, w < 5 → ∀ h, h < 4 → w * h ≤ 12 ∧ (w - 1) * (h + 1) ≤ 12 := by decide
theorem cell_len (w h s y x : Nat) : (cellL w h s y x).length ≤ 2 := by
  unfold cellL
  cases c1L w s y x <;> cases c2L w h s y x <;> simp
theorem row_len (w h s y : Nat) : ∀ n, (rowTo w h s y n).length ≤ n * 2
  | 0 => by simp [rowTo]
  | n + 1 => by have := row_len w h s y n; have := cell_len w h s y n; rw [rowTo, List.length_append]; omega
theorem all_len (w h s : Nat) : ∀ n, (allL w h s n).length ≤ n * (w * 2)
  | 0 => by simp [allL]
  | n + 1 => by have := all_len w h s n; have := row_len w h s n w; rw [allL, List.length_append, Nat.add_mul]; omega
theorem cellP_len (w h s y x : Nat) : (cellP w h s x y).length ≤ 2 := by
  unfold cellP
  cases d1L w s x y <;> cases d2L w h s x y <;> simp
theorem colTo_len (w h s x : Nat) : ∀ n, (colTo w h s x n).length ≤ n * 2
  | 0 => by simp [colTo]
  | n + 1 => by have := colTo_len w h s x n; have := cellP_len w h s n x; rw [colTo, List.length_append]; omega
theorem allP_len (w h s : Nat) : ∀ n, (allP w h s n).length ≤ n * (h * 2)
  | 0 => by simp [allP]
  | n + 1 => by have := allP_len w h s n; have := colTo_len w h s n h; rw [allP, List.length_append, Nat.add_mul]; omega
/-- Whether one of the first so many has its bit. -/
def orTo (D : Nat) (f : Nat → Nat) : Nat → Bool
  | 0 => false
  | y + 1 => orTo D f y || D.testBit (f y)
theorem orTo_iff (D : Nat) (f : Nat → Nat) : ∀ n, orTo D f n = true ↔ ∃ y, y < n ∧ D.testBit (f y) = true
  | 0 => by simp [orTo]
  | n + 1 => by
    rw [orTo, Bool.or_eq_true, orTo_iff D f n]
    constructor
    · rintro (⟨y, h1, h2⟩ | h)
      · exact ⟨y, by omega, h2⟩
      · exact ⟨n, by omega, h⟩
    · rintro ⟨y, h1, h2⟩
      by_cases e : y = n
      · subst e; exact .inr h2
      · exact .inl ⟨y, by omega, h2⟩
theorem orTo_mask {D t n : Nat} {f : Nat → Nat} (ht : ∀ i, t.testBit i = true ↔ ∃ y, y < n ∧ i = f y) : (!(D &&& t == 0)) = orTo D f n := by
  rw [Bool.eq_iff_iff, orTo_iff, Bool.not_eq_true', and_zero]
  constructor
  · rintro ⟨i, h1, h2⟩
    obtain ⟨y, hy, rfl⟩ := (ht i).1 h2
    exact ⟨y, hy, h1⟩
  · rintro ⟨y, hy, h1⟩
    exact ⟨f y, h1, (ht _).2 ⟨y, hy, rfl⟩⟩
theorem right_bits {w h : Nat} (hw : 2 ≤ w ∧ w ≤ 4) (hh : 1 ≤ h ∧ h ≤ 3) (i : Nat) : (colR w h).testBit i = true ↔ ∃ y, y < h ∧ i = y * w + w - 1 := by
  have H : ∀ w, w < 5 → ∀ h, h < 4 → 1 ≤ w → colR w h < 2 ^ 12 ∧ ∀ i, i < 12 → ((colR w h).testBit i = true ↔ ∃ y, y < h ∧ i = y * w + w - 1) := by decide +kernel
  obtain ⟨h1, h2⟩ := H w (by omega) h (by omega) (by omega)
  by_cases hi : i < 12
  · exact h2 i hi
  · constructor
    · intro hb; exact absurd (bit_below h1 hb) hi
    · rintro ⟨y, hy, e⟩
      have := (lens_small w (by omega) h (by omega)).1
      have h3 := place_lt (w := w) (h := h) (y := y) (x := w - 1) (by omega) hy
      omega
theorem top_bits {w h : Nat} (hw : 2 ≤ w ∧ w ≤ 4) (hh : 1 ≤ h ∧ h ≤ 3) (i : Nat) : (fdT w h).testBit i = true ↔ ∃ x, x < w - 1 ∧ i = h * (w - 1) + x := by
  have H : ∀ w, w < 5 → ∀ h, h < 4 → fdT w h < 2 ^ 12 ∧ ∀ i, i < 12 → ((fdT w h).testBit i = true ↔ ∃ x, x < w - 1 ∧ i = h * (w - 1) + x) := by decide +kernel
  obtain ⟨h1, h2⟩ := H w (by omega) h (by omega)
  by_cases hi : i < 12
  · exact h2 i hi
  · constructor
    · intro hb; exact absurd (bit_below h1 hb) hi
    · rintro ⟨x, hx, e⟩
      have := (lens_small w (by omega) h (by omega)).2
      have h3 := place_lt (w := w - 1) (h := h + 1) (y := h) (x := x) hx (by omega)
      omega

end Go.Proofs.Ytcmomghlepmogaa
