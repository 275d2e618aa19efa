/- The draw of a net with few edges. -/
import Derived.Test.YtgacgaidlbkkmaaDraws
namespace Go.Proofs.Ytgacgaidlbkkmaa
open Go.RowKit
set_option maxRecDepth 100000

/-- Edges that lie in blocks between two others. -/
def EdgesOff (w : World) (lo hi : Nat) (A : Option Addr) (es : List (Int × Int)) : Prop :=
  ∀ k e, es[k]? = some e → ∃ b off, A = some ⟨b, off, none⟩ ∧ lo ≤ b ∧ b < hi ∧
    w.cell? ⟨b, off + k * 2, none⟩ = some (.int .i64 e.1) ∧ w.cell? ⟨b, off + k * 2 + 1, none⟩ = some (.int .i64 e.2)
theorem EdgesOff.keep {w w' : World} {lo hi : Nat} {A : Option Addr} {es : List (Int × Int)} (h : EdgesOff w lo hi A es) (hk : ∀ p : Addr, lo ≤ p.block → p.block < hi → w'.cell? p = w.cell? p) : EdgesOff w' lo hi A es :=
  fun k e he => by
    obtain ⟨b, off, hA, h1, h2, h3, h4⟩ := h k e he
    exact ⟨b, off, hA, h1, h2, (hk ⟨b, _, none⟩ h1 h2).trans h3, (hk ⟨b, _, none⟩ h1 h2).trans h4⟩
theorem EdgesOff.less {w : World} {lo hi : Nat} {A : Option Addr} {es : List (Int × Int)} (h : EdgesOff w lo hi A es) (m : Nat) : EdgesOff w lo hi A (es.take m) :=
  fun k e he => h k e (by
    by_cases hk : k < m
    · rwa [List.getElem?_take_of_lt hk] at he
    · rw [List.getElem?_take, if_neg hk] at he; cases he)
theorem EdgesOff.more {w : World} {lo hi hi' : Nat} {A : Option Addr} {es : List (Int × Int)} (h : EdgesOff w lo hi A es) (hh : hi ≤ hi') : EdgesOff w lo hi' A es :=
  fun k e he => by
    obtain ⟨b, off, hA, h1, h2, h3, h4⟩ := h k e he
    exact ⟨b, off, hA, h1, by omega, h3, h4⟩
theorem EdgesOff.edges {w : World} {lo hi B : Nat} {A : Option Addr} {es : List (Int × Int)} (h : EdgesOff w lo hi A es) (hB : hi ≤ B) : EdgesIn w B A es :=
  fun k e he => by
    obtain ⟨b, off, hA, h1, h2, h3, h4⟩ := h k e he
    exact ⟨b, off, hA, by omega, h3, h4⟩
theorem OwnE.off {w : World} {base hi c : Nat} {A : Option Addr} {es : List (Int × Int)} (h : OwnE w base (.slice A es.length c) es) (hhi : w.heap.size ≤ hi) : EdgesOff w base hi A es := by
  have he := h.edges
  intro k e hk
  obtain ⟨b, off, hA, h1, h3, h4⟩ := he k e hk
  have hg := (World.ownsRow.lt h b (by rw [hA]; rfl)).1
  exact ⟨b, off, hA, hg, by omega, h3, h4⟩

/-- A net has been drawn; of what was there only the reader turned. -/
def DrawnSm (w : World) (rb : Nat) (B : Option Addr) (l cap p : Nat) (e : Ending) (w' : World) : Prop :=
  ∃ (n : Int) (A : Option Addr) (c : Nat) (es : List (Int × Int)) (q : Nat), e = .returned (.agg #[.int .i64 n, .slice A es.length c]) ∧ EdgesOff w' w.heap.size w'.heap.size A es ∧
    1 ≤ n ∧ n ≤ 7 ∧ es.length ≤ 20 ∧ es.length ≤ c ∧ Rd w' rb B l cap q ∧ q ≤ p + 200 ∧ w.grownBy w' (some rb)
/-- The boxes of the draw. -/
structure SmBox (w wr : World) (rb tb nb : Nat) (n : Int) (A : Option Addr) (c : Nat) (es : List (Int × Int)) : Prop where
  n0 : wr.cell? ⟨nb, 0, none⟩ = some (.int .i64 n)
  n1 : wr.cell? ⟨nb, 1, none⟩ = some (.slice A es.length c)
  f0 : wr.frozen? ⟨nb, 0, none⟩ = false
  f1 : wr.frozen? ⟨nb, 1, none⟩ = false
  r0 : wr.cell? ⟨tb, 0, none⟩ = some (.int .i64 0)
  r1 : wr.cell? ⟨tb, 1, none⟩ = some (.slice none 0 0)
  g0 : wr.frozen? ⟨tb, 0, none⟩ = false
  g1 : wr.frozen? ⟨tb, 1, none⟩ = false
  ed : EdgesOff wr (tb + 1) nb A es
  gr : w.grownBy wr (some rb)
  o1 : rb < tb
  o2 : tb < nb
  o3 : w.heap.size ≤ tb
  o4 : nb < wr.heap.size
  cp : es.length ≤ c
section
variable {w wr w1 : World} {rb tb nb : Nat} {n : Int} {A : Option Addr} {c : Nat} {es : List (Int × Int)}
theorem SmBox.readOn (h : SmBox w wr rb tb nb n A c es) (p m : Nat) : SmBox w (readOn wr rb p m) rb tb nb n A c es := by
  have o1 := h.o1
  have o2 := h.o2
  exact ⟨(readOn_cell _ _ _ _ _ (by simp; omega)).trans h.n0, (readOn_cell _ _ _ _ _ (by simp; omega)).trans h.n1, (readOn_frozen ..).trans h.f0, (readOn_frozen ..).trans h.f1,
   (readOn_cell _ _ _ _ _ (by simp; omega)).trans h.r0, (readOn_cell _ _ _ _ _ (by simp; omega)).trans h.r1, (readOn_frozen ..).trans h.g0, (readOn_frozen ..).trans h.g1,
   h.ed.keep (fun p' h1 h2 => readOn_cell _ _ _ _ _ (by omega)), grown_trans h.gr (readOn_grown ..), h.o1, h.o2, h.o3, by rw [readOn_size]; exact h.o4, h.cp⟩
theorem SmBox.start {t t' : TypeId} (hr : rb < w.heap.size) (own : OwnE w1 (w.alloc (.cells #[.int .i64 0, .slice none 0 0] t)).heap.size (.slice A es.length c) es)
    (hg : (w.alloc (.cells #[.int .i64 0, .slice none 0 0] t)).grownBy w1 (some rb)) (hc : es.length ≤ c) :
    SmBox w (w1.alloc (.cells #[.int .i64 n, .slice A es.length c] t')) rb w.heap.size w1.heap.size n A c es := by
  have h2 := NetBox2.start (n := n) (t' := t') hr own hg
  have hb := (Below.refl w1.heap.size w1).alloc (Nat.le_refl _) (.cells #[.int .i64 n, .slice A es.length c] t')
  rw [World.size_alloc] at own
  exact ⟨h2.n0, h2.n1, World.frozen?_alloc_at _ _ _ _ rfl, World.frozen?_alloc_at _ _ _ _ rfl, h2.r0, h2.r1, h2.g0, h2.g1, (own.off (Nat.le_refl _)).keep (fun p h1 h2 => hb.cell h2), h2.gr, h2.o1, h2.o2, h2.o3, h2.o4, hc⟩
theorem SmBox.cut (h : SmBox w wr rb tb nb n A c es) {m : Nat} (hm : m ≤ es.length) : SmBox w (wr.setCell ⟨nb, 1, none⟩ (.slice A m c)) rb tb nb n A c (es.take m) := by
  have o2 := h.o2
  have o3 := h.o3
  have hl : (es.take m).length = m := by rw [List.length_take]; omega
  refine ⟨(World.cell?_setCell_other _ _ _ _ (by simp)).trans h.n0, ?_, (World.frozen?_setCell ..).trans h.f0, (World.frozen?_setCell ..).trans h.f1,
    (World.cell?_setCell_far _ _ _ _ (by simp; omega)).trans h.r0, (World.cell?_setCell_far _ _ _ _ (by simp; omega)).trans h.r1, (World.frozen?_setCell ..).trans h.g0, (World.frozen?_setCell ..).trans h.g1,
    (h.ed.less m).keep (fun p h1 h2 => World.cell?_setCell_far _ _ _ _ (by simp; omega)), grown_below h.gr ((Below.refl w.heap.size wr).setCell (by simp; omega) _) (Nat.le_refl _), h.o1, h.o2, h.o3, by simp [World.setCell]; exact h.o4, by rw [hl]; have := h.cp; omega⟩
  rw [hl]; exact World.cell?_setCell_same _ _ _ h.n1
end
end Go.Proofs.Ytgacgaidlbkkmaa
