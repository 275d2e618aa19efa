/- MadeOne of the program: plain facts, the renaming, and its contract. -/
import Derived.Test.YtdacfeebidhgnabEdgesAt
import Derived.Test.YtdacfeebidhgnabMark
import Derived.Test.YtdacfeebidhgnabEd
import Derived.Deep.AppendLies
namespace Go.Proofs.Ytdacfeebidhgnab
open Go.RowKit
set_option maxRecDepth 100000

/-- The number that a node has after the ends of g are made one. -/
def renI (g : Int × Int) (v : Int) : Int := if v = g.2 then g.1 else if g.2 < v then v - 1 else v
def mmE (g e : Int × Int) : Int × Int := (if renI g e.2 < renI g e.1 then renI g e.2 else renI g e.1, if renI g e.1 < renI g e.2 then renI g e.2 else renI g e.1)
def madeL (g : Int × Int) (es : List (Int × Int)) : List (Int × Int) := (es.filter fun e => !eqEB e g).map (mmE g)
theorem madeL_length (g : Int × Int) (es : List (Int × Int)) : (madeL g es).length + es.countP (fun e => eqEB e g) = es.length := by
  unfold madeL
  induction es with
  | nil => rfl
  | cons e es ih =>
    simp only [List.length_map] at ih ⊢
    cases h : eqEB e g <;> simp [h] <;> omega
theorem madeL_take {g : Int × Int} {es : List (Int × Int)} {k : Nat} (hk : k < es.length) : madeL g (es.take (k + 1)) = if eqEB es[k] g = true then madeL g (es.take k) else madeL g (es.take k) ++ [mmE g es[k]] := by
  unfold madeL
  rw [List.take_succ_eq_append_getElem hk, List.filter_append, List.map_append]
  cases h : eqEB es[k] g <;> simp [h]
theorem madeL_le (g : Int × Int) (es : List (Int × Int)) : (madeL g es).length ≤ es.length := by have := madeL_length g es; omega
theorem ren_eq {g e : Int × Int} (hg : g.1 < g.2) (he : e.1 < e.2) : renI g e.1 = renI g e.2 ↔ e = g := by
  unfold renI
  rw [Prod.ext_iff]
  split <;> split <;> (try split) <;> (try split) <;> omega

/-- What MadeOne says. -/
def mOk (n : Int) (es : List (Int × Int)) (a : Int) : Bool := atOkB n es a && decide (3 ≤ n)
def mN (n : Int) (es : List (Int × Int)) (a : Int) : Int := if mOk n es a = true then n - 1 else 0
def mE (n : Int) (es : List (Int × Int)) (a : Int) : List (Int × Int) := if mOk n es a = true then madeL (es.getD a.toNat (0, 0)) es else []
def mL (n : Int) (es : List (Int × Int)) (a : Int) : Int := if mOk n es a = true then (es.countP (fun e => eqEB e (es.getD a.toNat (0, 0))) : Nat) - 1 else -1
def GotMade (w : World) (n : Int) (es : List (Int × Int)) (l : Int) (b : Bool) (e : Ending) (w' : World) : Prop :=
  ∃ A c, e = .returned (.tuple #[.agg #[.int .i64 n, .slice A es.length c], .int .i64 l, .bool b]) ∧ OwnE w' w.heap.size (.slice A es.length c) es ∧ Below w.heap.size w w'
theorem fit_ends {n : Int} {es : List (Int × Int)} (h : netOkB n es = true) {k : Nat} (hk : k < es.length) : 1 ≤ es[k].1 ∧ es[k].1 < es[k].2 ∧ es[k].2 ≤ n ∧ n ≤ 6 := by
  have h1 := netOkB_iff.1 h
  have h2 := h1.2.2 es[k] (List.getElem_mem hk)
  omega

/-- What stands before the loop: the net's box, the result's, the edge's, and the closure's. -/
structure MadeBox (w wr : World) (n : Int) (A : Option Addr) (cap : Nat) (es : List (Int × Int)) (B1 : Nat) (ga gb : Int) : Prop where
  L : ArgNet w wr n A cap es
  r0 : wr.cell? ⟨w.heap.size + 1, 0, none⟩ = some (.int .i64 0)
  r1 : wr.cell? ⟨w.heap.size + 1, 1, none⟩ = some (.slice none 0 0)
  q0 : wr.frozen? ⟨w.heap.size + 1, 0, none⟩ = false
  q1 : wr.frozen? ⟨w.heap.size + 1, 1, none⟩ = false
  x0 : wr.cell? ⟨B1, 0, none⟩ = some (.int .i64 ga)
  x1 : wr.cell? ⟨B1, 1, none⟩ = some (.int .i64 gb)
  y0 : wr.cell? ⟨B1 + 1, 0, none⟩ = some (.int .i64 ga)
  y1 : wr.cell? ⟨B1 + 1, 1, none⟩ = some (.int .i64 gb)
  o1 : w.heap.size + 1 < B1
  o2 : B1 + 1 < wr.heap.size
theorem MadeBox.step {w wr w2 : World} {n : Int} {A : Option Addr} {cap : Nat} {es : List (Int × Int)} {B1 : Nat} {ga gb : Int} (h : MadeBox w wr n A cap es B1 ga gb) (hb : Below (B1 + 2) wr w2) : MadeBox w w2 n A cap es B1 ga gb := by
  have o1 := h.o1
  have o2 := h.o2
  have hs := hb.size
  have cc : ∀ b o, b < B1 + 2 → w2.cell? ⟨b, o, none⟩ = wr.cell? ⟨b, o, none⟩ := fun b o h => hb.cell (p := ⟨b, o, none⟩) h
  have ff : ∀ b o, b < B1 + 2 → w2.frozen? ⟨b, o, none⟩ = wr.frozen? ⟨b, o, none⟩ := fun b o h => hb.frozen (p := ⟨b, o, none⟩) h
  exact ⟨h.L.step hb (by omega), (cc _ _ (by omega)).trans h.r0, (cc _ _ (by omega)).trans h.r1, (ff _ _ (by omega)).trans h.q0, (ff _ _ (by omega)).trans h.q1,
    (cc _ _ (by omega)).trans h.x0, (cc _ _ (by omega)).trans h.x1, (cc _ _ (by omega)).trans h.y0, (cc _ _ (by omega)).trans h.y1, o1, by omega⟩

end Go.Proofs.Ytdacfeebidhgnab
