/- The draws of two numbers and of two rows. -/
import Derived.Test.YtdacfeebidhgnaaDraws
import Derived.Test.YtdacfeebidhgnaaRow
import Derived.Deep.AppendLies
namespace Go.Proofs.Ytdacfeebidhgnaa
open Go.RowKit
set_option maxRecDepth 100000

def small (xs : List Int) : Prop := ∀ x ∈ xs, 0 ≤ x ∧ x ≤ 8
theorem small_snoc {xs : List Int} {x : Int} (h : small xs) (h0 : 0 ≤ x) (h1 : x < 9) : small (xs ++ [x]) := by
  intro y hy
  rcases List.mem_append.1 hy with hy | hy
  · exact h y hy
  · obtain rfl : y = x := by simpa using hy
    omega
theorem small_zero (n : Nat) : small (List.replicate n 0) := by
  intro y hy
  have := List.eq_of_mem_replicate hy
  omega
def GotRows (w : World) (e : Ending) (w' : World) : Prop :=
  ∃ A c xs B d ys, e = .returned (.tuple #[.slice A xs.length c, .slice B ys.length d]) ∧ OwnI w' w.heap.size (.slice A xs.length c) xs ∧ OwnI w' w.heap.size (.slice B ys.length d) ys ∧
    small xs ∧ small ys ∧ xs.length ≤ 5 ∧ ys.length ≤ 31 ∧ Below w.heap.size w w'
theorem readOn_ownI {w : World} {base : Nat} {v : Value} {xs : List Int} (h : OwnI w base v xs) (rb p m : Nat) (hr : rb < base) : OwnI (readOn w rb p m) base v xs := by
  have := h.far (p := ⟨rb, 1, none⟩) (fun k hk => by have := h.ge k hk; simp; omega) (.int .i64 ((p : Int) + 1))
  exact this.drewN m
theorem OwnI.kept {w w' : World} {base : Nat} {v : Value} {xs : List Int} {r : Option Nat} (h : OwnI w base v xs) (hg : w.grownBy w' r) (hr : ∀ k, v.ownBlock = some k → r ≠ some k) : OwnI w' base v xs := by
  refine World.ownsRow.kept h hg ?_
  cases ho : v.ownBlock with
  | none => exact .inl rfl
  | some j => exact .inr fun e => hr j ho e.symm
theorem grown_box {a b : World} {r : Option Nat} {o : Obj} (hg : (a.alloc o).grownBy b r) : a.grownBy b r := grown_trans (World.grownBy_alloc a o r) hg

/-- In the first loop: both rows, the second still empty in block T. -/
structure Two1 (w u : World) (rb T : Nat) (B : Option Addr) (l cap q : Nat) (va : Value) (xs : List Int) : Prop where
  rd : Rd u rb B l cap q
  own : OwnI u (rb + 1) va xs
  far : ∀ k, va.ownBlock = some k → k ≠ T
  emp : OwnI u (rb + 1) (.slice (some ⟨T, 0, none⟩) 0 0) []
  lt : rb < T
  size : T < u.heap.size
  bel : Below w.heap.size w u
  ge : w.heap.size ≤ rb
theorem Two1.read {w u : World} {rb T : Nat} {B : Option Addr} {l cap q : Nat} {va : Value} {xs : List Int} (h : Two1 w u rb T B l cap q va xs) (m : Nat) : Two1 w (readOn u rb q m) rb T B l cap (q + 1) va xs :=
  ⟨h.rd.next m, readOn_ownI h.own _ _ _ (by omega), h.far, readOn_ownI h.emp _ _ _ (by omega), h.lt, by rw [readOn_size]; exact h.size, h.bel.trans (below_of_grown (readOn_grown u rb q m) h.bel.size h.ge), h.ge⟩
/-- In the second loop: the first row is done, in a block that is not T and lies before K; the second is in block T or from K on. -/
structure Two2 (w u : World) (rb T K : Nat) (B : Option Addr) (l cap q : Nat) (va : Value) (xs : List Int) (vb : Value) (ys : List Int) : Prop where
  rd : Rd u rb B l cap q
  own : OwnI u (rb + 1) va xs
  far : ∀ k, va.ownBlock = some k → k ≠ T ∧ k < K
  own2 : OwnI u (rb + 1) vb ys
  at_ : ∀ k, vb.ownBlock = some k → k = T ∨ K ≤ k
  lt : rb < T
  size : T < u.heap.size
  size2 : K ≤ u.heap.size
  bel : Below w.heap.size w u
  ge : w.heap.size ≤ rb
theorem Two2.read {w u : World} {rb T K : Nat} {B : Option Addr} {l cap q : Nat} {va vb : Value} {xs ys : List Int} (h : Two2 w u rb T K B l cap q va xs vb ys) (m : Nat) : Two2 w (readOn u rb q m) rb T K B l cap (q + 1) va xs vb ys :=
  ⟨h.rd.next m, readOn_ownI h.own _ _ _ (by omega), h.far, readOn_ownI h.own2 _ _ _ (by omega), h.at_, h.lt, by rw [readOn_size]; exact h.size, by rw [readOn_size]; exact h.size2, h.bel.trans (below_of_grown (readOn_grown u rb q m) h.bel.size h.ge), h.ge⟩

theorem Two1.append {w u u' : World} {rb T : Nat} {B : Option Addr} {l cap q n c g cc : Nat} {A : Option Addr} {xs xs' : List Int} (h : Two1 w u rb T B l cap q (.slice A n c) xs) (hg : u.grownBy u' (Value.slice A n c).ownBlock)
    (own' : OwnI u' (rb + 1) (.slice (some ⟨g, 0, none⟩) (n + 1) cc) xs') (hat : (Value.slice A n c).ownBlock = some g ∨ u.heap.size ≤ g) : Two1 w u' rb T B l cap q (.slice (some ⟨g, 0, none⟩) (n + 1) cc) xs' := by
  have hz := h.size
  have hrb := h.rd.lt
  have hge := h.own.ge
  have hb : Below (rb + 1) u u' := ⟨hg.os, hg.tape, hg.output, hg.size, fun k hk => hg.block k (by omega) (fun e => by have := hge k e.symm; omega)⟩
  refine ⟨h.rd.keep hb (by omega), own', ?_, h.emp.kept hg ?_, h.lt, Nat.lt_of_lt_of_le hz hg.size, h.bel.trans (hb.mono (by have := h.ge; omega)), h.ge⟩
  · intro k hk
    obtain rfl : g = k := by simpa [Value.ownBlock] using hk
    rcases hat with e | e
    · exact h.far _ e
    · omega
  · intro k hk e
    obtain rfl : T = k := by simpa [Value.ownBlock] using hk
    exact h.far _ e rfl
theorem Two2.append {w u u' : World} {rb T K : Nat} {B : Option Addr} {l cap q n c g cc : Nat} {A : Option Addr} {va : Value} {xs ys ys' : List Int} (h : Two2 w u rb T K B l cap q va xs (.slice A n c) ys) (hg : u.grownBy u' (Value.slice A n c).ownBlock)
    (own' : OwnI u' (rb + 1) (.slice (some ⟨g, 0, none⟩) (n + 1) cc) ys') (hat : (Value.slice A n c).ownBlock = some g ∨ u.heap.size ≤ g) : Two2 w u' rb T K B l cap q va xs (.slice (some ⟨g, 0, none⟩) (n + 1) cc) ys' := by
  have hz := h.size
  have hz2 := h.size2
  have hrb := h.rd.lt
  have hge := h.own2.ge
  have hb : Below (rb + 1) u u' := ⟨hg.os, hg.tape, hg.output, hg.size, fun k hk => hg.block k (by omega) (fun e => by have := hge k e.symm; omega)⟩
  refine ⟨h.rd.keep hb (by omega), h.own.kept hg ?_, h.far, own', ?_, h.lt, Nat.lt_of_lt_of_le hz hg.size, Nat.le_trans hz2 hg.size, h.bel.trans (hb.mono (by have := h.ge; omega)), h.ge⟩
  · intro k hk e
    have h1 := h.far k hk
    have h2 := h.at_ k e
    omega
  · intro k hk
    obtain rfl : g = k := by simpa [Value.ownBlock] using hk
    rcases hat with e | e
    · exact h.at_ _ e
    · exact .inr (by omega)

end Go.Proofs.Ytdacfeebidhgnaa
