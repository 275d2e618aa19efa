/- The draws of a net with a state, a node or a place. -/
import Derived.Test.YtdacfeebidhgnaaDrawNet
namespace Go.Proofs.Ytdacfeebidhgnaa
open Go.RowKit
set_option maxRecDepth 100000

/-- A net and a number have been drawn; of what was there only the reader turned. -/
def DrawnNetInt (w : World) (rb : Nat) (B : Option Addr) (l cap p : Nat) (e : Ending) (w' : World) : Prop :=
  ∃ (n : Int) (A : Option Addr) (c : Nat) (es : List (Int × Int)) (s : Int) (q : Nat), e = .returned (.tuple #[.agg #[.int .i64 n, .slice A es.length c], .int .i64 s]) ∧ OwnE w' w.heap.size (.slice A es.length c) es ∧
    1 ≤ n ∧ n ≤ 7 ∧ es.length ≤ 20 ∧ -1000 ≤ s ∧ s ≤ 1000 ∧ Rd w' rb B l cap q ∧ q ≤ p + 200 ∧ w.grownBy w' (some rb)

/-- A drawn net in a box of its own (block nb), behind a result's box (block tb) that has not been written yet. -/
structure NetBox2 (w wr : World) (rb tb nb : Nat) (n : Int) (A : Option Addr) (c : Nat) (es : List (Int × Int)) : Prop where
  n0 : wr.cell? ⟨nb, 0, none⟩ = some (.int .i64 n)
  n1 : wr.cell? ⟨nb, 1, none⟩ = some (.slice A es.length c)
  r0 : wr.cell? ⟨tb, 0, none⟩ = some (.int .i64 0)
  r1 : wr.cell? ⟨tb, 1, none⟩ = some (.slice none 0 0)
  g0 : wr.frozen? ⟨tb, 0, none⟩ = false
  g1 : wr.frozen? ⟨tb, 1, none⟩ = false
  own : OwnE wr (tb + 1) (.slice A es.length c) es
  gr : w.grownBy wr (some rb)
  o1 : rb < tb
  o2 : tb < nb
  o3 : w.heap.size ≤ tb
  o4 : nb < wr.heap.size

section
variable {w wr w1 : World} {rb tb nb : Nat} {n : Int} {A : Option Addr} {c : Nat} {es : List (Int × Int)}
theorem NetBox2.readOn (h : NetBox2 w wr rb tb nb n A c es) (p m : Nat) : NetBox2 w (readOn wr rb p m) rb tb nb n A c es := by
  have o1 := h.o1
  have o2 := h.o2
  exact ⟨(readOn_cell _ _ _ _ _ (by simp; omega)).trans h.n0, (readOn_cell _ _ _ _ _ (by simp; omega)).trans h.n1,
   (readOn_cell _ _ _ _ _ (by simp; omega)).trans h.r0, (readOn_cell _ _ _ _ _ (by simp; omega)).trans h.r1, (readOn_frozen ..).trans h.g0, (readOn_frozen ..).trans h.g1,
   readOn_own h.own _ _ _ (by omega), grown_trans h.gr (readOn_grown ..), h.o1, h.o2, h.o3, by rw [readOn_size]; exact h.o4⟩
theorem NetBox2.drew (h : NetBox2 w wr rb tb nb n A c es) : NetBox2 w wr.drew rb tb nb n A c es :=
  ⟨h.n0, h.n1, h.r0, h.r1, h.g0, h.g1, h.own, grown_below h.gr ((Below.refl w.heap.size wr).drew) (Nat.le_refl _), h.o1, h.o2, h.o3, h.o4⟩
theorem NetBox2.start {t t' : TypeId} (hr : rb < w.heap.size) (own : OwnE w1 (w.alloc (.cells #[.int .i64 0, .slice none 0 0] t)).heap.size (.slice A es.length c) es)
    (hg : (w.alloc (.cells #[.int .i64 0, .slice none 0 0] t)).grownBy w1 (some rb)) :
    NetBox2 w (w1.alloc (.cells #[.int .i64 n, .slice A es.length c] t')) rb w.heap.size w1.heap.size n A c es := by
  have hs := hg.size
  simp only [World.size_alloc] at hs own
  have hb := (Below.refl w1.heap.size w1).alloc (Nat.le_refl _) (.cells #[.int .i64 n, .slice A es.length c] t')
  have ht : w1.heap[w.heap.size]? = (w.alloc (.cells #[.int .i64 0, .slice none 0 0] t)).heap[w.heap.size]? := hg.block _ (by simp) (by simp; omega)
  refine ⟨by rw [World.cell?_alloc_at _ _ _ _ rfl]; rfl, by rw [World.cell?_alloc_at _ _ _ _ rfl]; rfl, ?_, ?_, ?_, ?_, own.below hb own.lt, ?_, hr, by omega, Nat.le_refl _, by simp⟩
  · rw [hb.cell (p := ⟨w.heap.size, 0, none⟩) (by simp; omega), World.cell?_of_block (w := w.alloc (.cells #[.int .i64 0, .slice none 0 0] t)) ht, World.cell?_alloc_at _ _ _ _ rfl]; rfl
  · rw [hb.cell (p := ⟨w.heap.size, 1, none⟩) (by simp; omega), World.cell?_of_block (w := w.alloc (.cells #[.int .i64 0, .slice none 0 0] t)) ht, World.cell?_alloc_at _ _ _ _ rfl]; rfl
  · rw [hb.frozen (p := ⟨w.heap.size, 0, none⟩) (by simp; omega), World.frozen?_of_block (w := w.alloc (.cells #[.int .i64 0, .slice none 0 0] t)) ht]; exact World.frozen?_alloc_at _ _ _ _ rfl
  · rw [hb.frozen (p := ⟨w.heap.size, 1, none⟩) (by simp; omega), World.frozen?_of_block (w := w.alloc (.cells #[.int .i64 0, .slice none 0 0] t)) ht]; exact World.frozen?_alloc_at _ _ _ _ rfl
  · exact grown_below (grown_trans (World.grownBy_alloc _ _ _) hg) hb (by omega)
theorem NetBox2.result (h : NetBox2 w wr rb tb nb n A c es) {B : Option Addr} {l cap p q : Nat} {s : Int} (hr : Rd wr rb B l cap q) (hq : q ≤ p + 200) (h1 : 1 ≤ n) (h7 : n ≤ 7) (hle : es.length ≤ 20) (s1 : -1000 ≤ s) (s2 : s ≤ 1000) :
    DrawnNetInt w rb B l cap p (.returned (.tuple #[.agg #[.int .i64 n, .slice A es.length c], .int .i64 s])) ((wr.setCell ⟨tb, 0, none⟩ (.int .i64 n)).setCell ⟨tb, 1, none⟩ (.slice A es.length c)) := by
  have o1 := h.o1
  have o2 := h.o2
  have o3 := h.o3
  refine ⟨n, A, c, es, s, q, rfl, ((h.own.more (by omega)).far ?_ _).far ?_ _, h1, h7, hle, s1, s2, ?_, hq, ?_⟩
  · intro k hk; have := (World.ownsRow.lt h.own k hk).1; simp; omega
  · intro k hk; have := (World.ownsRow.lt h.own k hk).1; simp; omega
  · exact hr.keep (((Below.refl tb wr).setCell (by simp) _).setCell (by simp) _) o1
  · exact grown_below h.gr (((Below.refl tb wr).setCell (by simp) _).setCell (by simp) _) o3
end

end Go.Proofs.Ytdacfeebidhgnaa

namespace Go.Proofs.Ytdacfeebidhgnaa
open Go.RowKit
set_option maxRecDepth 100000

end Go.Proofs.Ytdacfeebidhgnaa

namespace Go.Proofs.Ytdacfeebidhgnaa
open Go.RowKit
set_option maxRecDepth 100000

theorem times_bit (x P : Int) (h0 : 0 ≤ x) (h1 : x < 2) (p0 : 1 ≤ P) (p1 : P ≤ 512) : ∃ M : Int, IntKind.i64.wrap (x * P) = M ∧ 0 ≤ M ∧ M ≤ 512 := by
  have : x = 0 ∨ x = 1 := by omega
  rcases this with rfl | rfl
  · exact ⟨0, by rw [Int.zero_mul]; exact IntWalk.i64_in _ (by omega), by omega, by omega⟩
  · exact ⟨P, by rw [Int.one_mul]; exact IntWalk.i64_in _ (by omega), by omega, by omega⟩

end Go.Proofs.Ytdacfeebidhgnaa

/- The draws for the laws of the first chapter: from a code to a net, and a number. -/
namespace Go.Proofs.Ytdacfeebidhgnaa
open Go.RowKit
set_option maxRecDepth 100000

/-- What a draw of a net leaves. -/
def GotNet (w : World) (e : Ending) (w' : World) : Prop :=
  ∃ (n : Int) (A : Option Addr) (c : Nat) (es : List (Int × Int)), e = .returned (.agg #[.int .i64 n, .slice A es.length c]) ∧ OwnE w' w.heap.size (.slice A es.length c) es ∧ 1 ≤ n ∧ n ≤ 7 ∧ es.length ≤ 20 ∧ Below w.heap.size w w'
def GotNetInt (w : World) (e : Ending) (w' : World) : Prop :=
  ∃ (n : Int) (A : Option Addr) (c : Nat) (es : List (Int × Int)) (s : Int), e = .returned (.tuple #[.agg #[.int .i64 n, .slice A es.length c], .int .i64 s]) ∧ OwnE w' w.heap.size (.slice A es.length c) es ∧ 1 ≤ n ∧ n ≤ 7 ∧ es.length ≤ 20 ∧ -1000 ≤ s ∧ s ≤ 1000 ∧ Below w.heap.size w w'

/-- A result's box at the end: what it held when the call began. -/
theorem tbox {w w1 w2 : World} {t : TypeId} {cs : Array Value} {rb : Nat} (hb : Below (w.alloc (.cells cs t)).heap.size (w.alloc (.cells cs t)) w1) (hg : w1.grownBy w2 (some rb)) (hr : w.heap.size < rb) (i : Nat) :
    w2.cell? ⟨w.heap.size, i, none⟩ = cs[i]? ∧ w2.frozen? ⟨w.heap.size, i, none⟩ = false := by
  have hs := hb.size
  simp only [World.size_alloc] at hs
  have h2 : w2.heap[w.heap.size]? = (w.alloc (.cells cs t)).heap[w.heap.size]? := (hg.block _ (by omega) (by simp; omega)).trans (hb.block _ (by simp))
  exact ⟨(World.cell?_of_block (w := w.alloc (.cells cs t)) h2).trans (by rw [World.cell?_alloc_at _ _ _ _ rfl]), (World.frozen?_of_block (w := w.alloc (.cells cs t)) h2).trans (World.frozen?_alloc_at _ _ _ _ rfl)⟩
theorem tbelow {w w1 w2 : World} {t : TypeId} {cs : Array Value} {rb : Nat} (hb : Below (w.alloc (.cells cs t)).heap.size (w.alloc (.cells cs t)) w1) (hg : w1.grownBy w2 (some rb)) (hr : w.heap.size < rb) : Below w.heap.size w w2 := by
  have hs := hb.size
  simp only [World.size_alloc] at hs
  exact (((Below.refl _ _).alloc (Nat.le_refl _) _).trans (hb.mono (by simp))).trans (below_of_grown hg (by omega) (by omega))

end Go.Proofs.Ytdacfeebidhgnaa
