/- Rows of integers: what a slice reads as, and a row of the call's own. -/
import Derived.Test.YtdacfeebidhgnaaFind
namespace Go.Proofs.Ytdacfeebidhgnaa
open Go.RowKit
set_option maxRecDepth 100000

def ints (xs : List Int) : List Value := xs.map fun x => .int .i64 x
theorem ints_length (xs : List Int) : (ints xs).length = xs.length := by simp [ints]
theorem ints_get {xs : List Int} {k : Nat} {x : Int} (h : xs[k]? = some x) : (ints xs)[k]? = some (.int .i64 x) := by simp [ints, h]
theorem ints_at {xs : List Int} {k : Nat} (h : k < xs.length) : xs[k]? = some (xs.getD k 0) := by simp [List.getD, h]
theorem ints_set (xs : List Int) (k : Nat) (x : Int) : ints (xs.set k x) = (ints xs).set k (.int .i64 x) := by simp [ints, List.map_set]
theorem ints_append (xs ys : List Int) : ints (xs ++ ys) = ints xs ++ ints ys := by simp [ints]
theorem madeCells_ints (n : Nat) : (madeCells #[.int .i64 0] (n * 1)).toList = ints (List.replicate n 0) := by
  apply List.ext_getElem?
  intro j
  by_cases hj : j < n
  · simp [madeCells, ints, hj, Nat.mod_one]
  · simp [madeCells, ints, hj]

/-- The slice at A reads as the list of integers, all of it in blocks before B. -/
def IntsIn (w : World) (B : Nat) (A : Option Addr) (xs : List Int) : Prop :=
  ∀ k x, xs[k]? = some x → ∃ b off, A = some ⟨b, off, none⟩ ∧ b < B ∧ w.cell? ⟨b, off + k, none⟩ = some (.int .i64 x)
theorem IntsIn.nil {w : World} {B : Nat} {A : Option Addr} : IntsIn w B A [] := fun k e h => by simp at h
theorem IntsIn.below {w w' : World} {B B' : Nat} {A : Option Addr} {xs : List Int} (h : IntsIn w B A xs) (hb : Below B' w w') (hB : B ≤ B') : IntsIn w' B A xs :=
  fun k x hk => by
    obtain ⟨b, off, rfl, hlt, c0⟩ := h k x hk
    exact ⟨b, off, rfl, hlt, (hb.cell (p := ⟨b, off + k, none⟩) (by simp; omega)).trans c0⟩
theorem IntsIn.more {w : World} {B B' : Nat} {A : Option Addr} {xs : List Int} (h : IntsIn w B A xs) (hB : B ≤ B') : IntsIn w B' A xs :=
  fun k x hk => by
    obtain ⟨b, off, rfl, hlt, c0⟩ := h k x hk
    exact ⟨b, off, rfl, by omega, c0⟩
theorem IntsIn.alloc {w : World} {B : Nat} {A : Option Addr} {xs : List Int} (h : IntsIn w B A xs) (hB : B ≤ w.heap.size) (o : Obj) : IntsIn (w.alloc o) B A xs :=
  h.below ((Below.refl _ _).alloc hB o) (Nat.le_refl _)

/-- The slice v, of the call's own from block 'base' on, holds the list of integers. -/
def OwnI (w : World) (base : Nat) (v : Value) (xs : List Int) : Prop := w.ownsRow base 3 1 v xs.length (ints xs)
theorem OwnI.nil (w : World) (base : Nat) : OwnI w base (.slice none 0 0) [] := World.ownsRow_nil _ _ _ _
theorem OwnI.form {w : World} {base : Nat} {v : Value} {xs : List Int} (h : OwnI w base v xs) :
    (v = .slice none 0 0 ∧ xs = []) ∨ ∃ g cap, v = .slice (some ⟨g, 0, none⟩) xs.length cap ∧ base ≤ g ∧ g < w.heap.size := by
  rcases h.2 with ⟨rfl, h0⟩ | ⟨g, cap, cur, rfl, hb, hh, _⟩
  · exact .inl ⟨rfl, List.eq_nil_of_length_eq_zero h0⟩
  · refine .inr ⟨g, cap, rfl, hb, ?_⟩
    rcases Nat.lt_or_ge g w.heap.size with hlt | hge
    · exact hlt
    · rw [Array.getElem?_eq_none hge] at hh; cases hh
theorem OwnI.ints {w : World} {base n c : Nat} {A : Option Addr} {xs : List Int} (h : OwnI w base (.slice A n c) xs) : IntsIn w w.heap.size A xs := by
  intro k x hk
  have hlt : k < xs.length := (List.getElem?_eq_some_iff.1 hk).1
  rcases h.form with ⟨_, rfl⟩ | ⟨g, cap, hv, _, hg⟩
  · simp at hk
  · injection hv with hA hn hc
    subst hA hn hc
    exact ⟨g, 0, rfl, hg, by rw [Nat.zero_add, World.ownsRow.cellAt h k (by omega)]; exact ints_get hk⟩
theorem OwnI.len {w : World} {base n c : Nat} {A : Option Addr} {xs : List Int} (h : OwnI w base (.slice A n c) xs) : n = xs.length := by
  rcases h.form with ⟨hv, rfl⟩ | ⟨g, cap, hv, _⟩
  · injection hv with _ h2 _
  · injection hv with _ h2 _
theorem OwnI.cap {w : World} {base n c : Nat} {A : Option Addr} {xs : List Int} (h : OwnI w base (.slice A n c) xs) : xs.length ≤ c := by
  rcases h.2 with ⟨hv, h0⟩ | ⟨g, cap, cur, hv, hb', hh, h3, h4, h5, h6⟩
  · omega
  · injection hv with h1 h2 h7; subst h7; exact h3
theorem OwnI.below {w w' : World} {base B : Nat} {v : Value} {xs : List Int} (h : OwnI w base v xs) (hb : Below B w w') (hB : ∀ k, v.ownBlock = some k → k < B) : OwnI w' base v xs := by
  rcases h.2 with ⟨rfl, h0⟩ | ⟨g, cap, cur, rfl, hb', hh, h3, h4, h5, h6⟩
  · exact ⟨h.1, .inl ⟨rfl, h0⟩⟩
  · exact ⟨h.1, .inr ⟨g, cap, cur, rfl, hb', (hb.block g (hB g rfl)).trans hh, h3, h4, h5, h6⟩⟩
theorem OwnI.far {w : World} {base : Nat} {v : Value} {xs : List Int} (h : OwnI w base v xs) {p : Addr} (hp : ∀ k, v.ownBlock = some k → k ≠ p.block) (u : Value) : OwnI (w.setCell p u) base v xs := by
  rcases h.2 with ⟨rfl, h0⟩ | ⟨g, cap, cur, rfl, hb', hh, h3, h4, h5, h6⟩
  · exact ⟨h.1, .inl ⟨rfl, h0⟩⟩
  · exact ⟨h.1, .inr ⟨g, cap, cur, rfl, hb', (Below.heap_setCell _ _ _ _ (hp g rfl)).trans hh, h3, h4, h5, h6⟩⟩
theorem OwnI.lt {w : World} {base : Nat} {v : Value} {xs : List Int} (h : OwnI w base v xs) : ∀ k, v.ownBlock = some k → k < w.heap.size :=
  fun k hk => (World.ownsRow.lt h k hk).2
theorem OwnI.ge {w : World} {base : Nat} {v : Value} {xs : List Int} (h : OwnI w base v xs) : ∀ k, v.ownBlock = some k → base ≤ k :=
  fun k hk => (World.ownsRow.lt h k hk).1
theorem OwnI.more {w : World} {base base' : Nat} {v : Value} {xs : List Int} (h : OwnI w base v xs) (hB : base' ≤ base) : OwnI w base' v xs := by
  rcases h.2 with ⟨rfl, h0⟩ | ⟨g, cap, cur, rfl, hb', hh⟩
  · exact ⟨h.1, .inl ⟨rfl, h0⟩⟩
  · exact ⟨h.1, .inr ⟨g, cap, cur, rfl, by omega, hh⟩⟩
theorem OwnI.drew {w : World} {base : Nat} {v : Value} {xs : List Int} (h : OwnI w base v xs) : OwnI w.drew base v xs := h.below ((Below.refl w.heap.size w).drew) h.lt
theorem OwnI.drewN {w : World} {base : Nat} {v : Value} {xs : List Int} (h : OwnI w base v xs) (n : Nat) : OwnI (w.drewN n) base v xs := h.below (belowN (Below.refl w.heap.size w) n) h.lt
theorem OwnI.slot {w : World} {base g n c : Nat} {xs : List Int} (h : OwnI w base (.slice (some ⟨g, 0, none⟩) n c) xs) {k : Nat} (hk : k < n) :
    w.cell? ⟨g, k, none⟩ = some (.int .i64 (xs.getD k 0)) ∧ w.frozen? ⟨g, k, none⟩ = false := by
  obtain rfl := h.len
  refine ⟨?_, World.ownsRow.frozenAt h k⟩
  rw [World.ownsRow.cellAt h k (by omega)]
  refine ints_get ?_
  simp [List.getD, hk]
theorem OwnI.store {w : World} {base g n c : Nat} {xs : List Int} (h : OwnI w base (.slice (some ⟨g, 0, none⟩) n c) xs) (k : Nat) (x : Int) :
    OwnI (w.setCell ⟨g, k, none⟩ (.int .i64 x)) base (.slice (some ⟨g, 0, none⟩) n c) (xs.set k x) := by
  obtain rfl := h.len
  have h1 := (World.ownsRow.stored h k (.int .i64 x)).1
  unfold OwnI
  rw [ints_set, List.length_set]
  exact h1
theorem OwnI.box (w : World) {base : Nat} (xs : List Int) (hb : base ≤ w.heap.size) (hm : xs.length ≤ maxLen) :
    OwnI (w.alloc (.cells (Go.Proofs.Ytdacfeebidhgnaa.ints xs).toArray 3)) base (.slice (some ⟨w.heap.size, 0, none⟩) xs.length xs.length) xs :=
  ⟨by simp [ints_length], .inr ⟨w.heap.size, xs.length, (Go.Proofs.Ytdacfeebidhgnaa.ints xs).toArray, rfl, hb, heap_alloc_new w _, Nat.le_refl _, hm, by simp [ints_length], by simp [List.take_of_length_le, ints_length]⟩⟩

/-- The row of a function's values. -/
def rowL (p : Nat → Int) (n : Nat) : List Int := (List.range n).map p
def updI (p : Nat → Int) (k : Nat) (v : Int) (x : Nat) : Int := if x = k then v else p x
theorem rowL_length (p : Nat → Int) (n : Nat) : (rowL p n).length = n := by simp [rowL]
theorem rowL_get (p : Nat → Int) {n k : Nat} (h : k < n) : (rowL p n)[k]? = some (p k) := by simp [rowL, h]
theorem rowL_getD (p : Nat → Int) {n k : Nat} (h : k < n) : (rowL p n).getD k 0 = p k := by simp [List.getD, rowL_get p h]
theorem rowL_congr {p q : Nat → Int} {n : Nat} (h : ∀ x, x < n → p x = q x) : rowL p n = rowL q n := by
  unfold rowL
  apply List.map_congr_left
  intro x hx
  exact h x (by simpa using hx)
theorem rowL_set (p : Nat → Int) (n k : Nat) (v : Int) : (rowL p n).set k v = rowL (updI p k v) n := by
  apply List.ext_getElem?
  intro j
  by_cases hj : j < n
  · by_cases hk : k = j
    · subst hk; simp [rowL, updI, hj]
    · rw [List.getElem?_set_ne hk, rowL_get _ hj, rowL_get _ hj]; simp [updI]; intro e; exact absurd e.symm hk
  · rw [List.getElem?_eq_none (by simp [rowL]; omega), List.getElem?_eq_none (by simp [rowL]; omega)]
theorem rowL_zero (n : Nat) : List.replicate n 0 = rowL (fun _ => 0) n := by
  apply List.ext_getElem?
  intro j
  by_cases hj : j < n <;> simp [rowL, hj]
theorem rowL_of (xs : List Int) : rowL (fun k => xs.getD k 0) xs.length = xs := by
  apply List.ext_getElem?
  intro j
  by_cases hj : j < xs.length
  · rw [rowL_get _ hj]; simp [List.getD, hj]
  · rw [List.getElem?_eq_none (by simp [rowL]; omega), List.getElem?_eq_none (by omega)]

/-- A call gives back a new row, or nil. -/
def GotInts (w : World) (xs : List Int) (e : Ending) (w' : World) : Prop :=
  ∃ A c, e = .returned (.slice A xs.length c) ∧ OwnI w' w.heap.size (.slice A xs.length c) xs ∧ Below w.heap.size w w'
end Go.Proofs.Ytdacfeebidhgnaa
