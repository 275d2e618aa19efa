/- RRows of rows of integers, all of the call's own. -/
import Derived.Test.YtdacfeebidhgnaaRow
import Derived.BigRegion
import Derived.Deep.AppendLies
namespace Go.Proofs.Ytdacfeebidhgnaa
open Go.RowKit
set_option maxRecDepth 100000

theorem rows_info : (Try.prog.info? 33).map (fun i => (i.zero, i.size, i.bytes)) = some (some (.slice none 0 0), 1, 24) := by kernel_rfl

/-- A row of k rows of m numbers each, all of the call's own, from block 'base' on. -/
def RRows (u : World) (base : Nat) (OA : Option Addr) (k oc m : Nat) (F : Nat → List Int) : Prop :=
  ∃ vs : List Value, vs.length = k ∧ u.ownsRow base 33 1 (.slice OA k oc) k vs ∧
    ∀ j, j < k → ∃ b c, vs[j]? = some (.slice (some ⟨b, 0, none⟩) m c) ∧ base ≤ b ∧ (Value.slice OA k oc).ownBlock ≠ some b ∧ b < u.heap.size ∧ IntsIn u u.heap.size (some ⟨b, 0, none⟩) (F j)
theorem RRows.nil (u : World) (base m : Nat) (F : Nat → List Int) : RRows u base none 0 0 m F := ⟨[], rfl, World.ownsRow_nil _ _ _ _, fun j hj => by omega⟩
theorem RRows.block {u : World} {base : Nat} {OA : Option Addr} {k oc m : Nat} {F : Nat → List Int} (h : RRows u base OA k oc m F) : ∀ j, (Value.slice OA k oc).ownBlock = some j → j < u.heap.size := by
  obtain ⟨vs, hl, ho, hr⟩ := h
  exact fun j hj => (World.ownsRow.lt ho j hj).2
theorem ownsRow_next {u u' : World} {base : Nat} {T : TypeId} {v : Value} {k : Nat} {vs : List Value} (h : u.ownsRow base T 1 v k vs) (hb : Below u.heap.size u u') : u'.ownsRow base T 1 v k vs := by
  have hlt := fun j hj => (World.ownsRow.lt h j hj).2
  rcases h.2 with ⟨rfl, h0⟩ | ⟨g, cap, cur, rfl, hb', hh, h3⟩
  · exact ⟨h.1, .inl ⟨rfl, h0⟩⟩
  · exact ⟨h.1, .inr ⟨g, cap, cur, rfl, hb', (hb.block g (hlt g rfl)).trans hh, h3⟩⟩
theorem RRows.next {u u' : World} {base : Nat} {OA : Option Addr} {k oc m : Nat} {F : Nat → List Int} (h : RRows u base OA k oc m F) (hb : Below u.heap.size u u') : RRows u' base OA k oc m F := by
  obtain ⟨vs, hl, ho, hr⟩ := h
  refine ⟨vs, hl, ownsRow_next ho hb, fun j hj => ?_⟩
  obtain ⟨b, c, h1, h2, h3, h4, h5⟩ := hr j hj
  exact ⟨b, c, h1, h2, h3, Nat.lt_of_lt_of_le h4 hb.size, (h5.below hb (Nat.le_refl _)).more hb.size⟩
theorem RRows.drew {u : World} {base : Nat} {OA : Option Addr} {k oc m : Nat} {F : Nat → List Int} (h : RRows u base OA k oc m F) : RRows u.drew base OA k oc m F := h.next ((Below.refl _ _).drew)
/-- One row more. -/
theorem rows_grow {w4 w5 : World} {base : Nat} {OA : Option Addr} {k oc m g4 k4 gg cc : Nat} {F : Nat → List Int} {vs : List Value} {T : TypeId}
    (ho : w4.ownsRow base 33 1 (.slice OA k oc) k vs) (hl : vs.length = k)
    (hr : ∀ j, j < k → ∃ b c, vs[j]? = some (.slice (some ⟨b, 0, none⟩) m c) ∧ base ≤ b ∧ (Value.slice OA k oc).ownBlock ≠ some b ∧ b < w4.heap.size ∧ IntsIn w4 w4.heap.size (some ⟨b, 0, none⟩) (F j))
    (hlo : ∀ j, (Value.slice OA k oc).ownBlock = some j → j < g4) (hhi : g4 < w4.heap.size) (hbase : base ≤ g4) (hi : IntsIn w4 w4.heap.size (some ⟨g4, 0, none⟩) (F k))
    (hown : w5.ownsRow base 33 1 (.slice (some ⟨gg, 0, none⟩) (k + 1) cc) (k + 1) (vs ++ [.slice (some ⟨g4, 0, none⟩) m k4]))
    (hg : (w4.alloc (.cells #[.slice (some ⟨g4, 0, none⟩) m k4] T)).grownBy w5 (Value.slice OA k oc).ownBlock)
    (hat : (Value.slice OA k oc).ownBlock = some gg ∨ gg = (w4.alloc (.cells #[.slice (some ⟨g4, 0, none⟩) m k4] T)).heap.size) :
    RRows w5 base (some ⟨gg, 0, none⟩) (k + 1) cc m F := by
  have hs5 : w4.heap.size + 1 ≤ w5.heap.size := by have := hg.size; simpa using this
  have keep : ∀ b, b < w4.heap.size → (Value.slice OA k oc).ownBlock ≠ some b → w5.heap[b]? = w4.heap[b]? := fun b hb hne =>
    (hg.block b (by simp; omega) (fun e => hne e.symm)).trans (((Below.refl w4.heap.size w4).alloc (Nat.le_refl _) _).block b hb)
  have ggne : ∀ b, b < w4.heap.size → (Value.slice OA k oc).ownBlock ≠ some b → gg ≠ b := fun b hb hne e => by
    subst e
    rcases hat with h | h
    · exact hne h
    · simp at h; omega
  have ints : ∀ b xs, b < w4.heap.size → (Value.slice OA k oc).ownBlock ≠ some b → IntsIn w4 w4.heap.size (some ⟨b, 0, none⟩) xs → IntsIn w5 w5.heap.size (some ⟨b, 0, none⟩) xs := fun b xs hb hne h i x hx => by
    obtain ⟨b', off, he, hlt, hc⟩ := h i x hx
    injection he with he; injection he with e1 e2; subst e1 e2
    exact ⟨b, 0, rfl, by omega, (World.cell?_of_block (a := ⟨b, 0 + i, none⟩) (keep b hb hne)).trans hc⟩
  refine ⟨_, by simp [hl], hown, fun j hj => ?_⟩
  have hown' : (Value.slice (some ⟨gg, 0, none⟩) (k + 1) cc).ownBlock = some gg := rfl
  by_cases hjk : j < k
  · obtain ⟨b, c, h1, h2, h3, h4, h5⟩ := hr j hjk
    exact ⟨b, c, by rw [List.getElem?_append_left (by omega)]; exact h1, h2, by rw [hown']; intro e; injection e with e; exact ggne b h4 h3 e, by omega, ints b _ h4 h3 h5⟩
  · obtain rfl : j = k := by omega
    have hne : (Value.slice OA j oc).ownBlock ≠ some g4 := fun e => by have := hlo g4 e; omega
    exact ⟨g4, k4, by rw [← hl]; simp, hbase, by rw [hown']; intro e; injection e with e; exact ggne g4 hhi hne e, by omega, ints g4 _ hhi hne hi⟩
theorem rows_far {u : World} {base : Nat} {OA : Option Addr} {k oc m : Nat} {F : Nat → List Int} (h : RRows u base OA k oc m F) {p : Addr} (hp : p.block < base) (v : Value) : RRows (u.setCell p v) base OA k oc m F := by
  obtain ⟨vs, hl, ho, hr⟩ := h
  have keep : ∀ b, base ≤ b → (u.setCell p v).heap[b]? = u.heap[b]? := fun b hb => Below.heap_setCell _ _ _ _ (by omega)
  have hsz : (u.setCell p v).heap.size = u.heap.size := by simp [World.setCell]
  refine ⟨vs, hl, ?_, fun j hj => ?_⟩
  · rcases ho.2 with ⟨h0, h1⟩ | ⟨g, cap, cur, h0, hb', hh, h3⟩
    · exact ⟨ho.1, .inl ⟨h0, h1⟩⟩
    · exact ⟨ho.1, .inr ⟨g, cap, cur, h0, hb', (keep g hb').trans hh, h3⟩⟩
  · obtain ⟨b, c, h1, h2, h3, h4, h5⟩ := hr j hj
    refine ⟨b, c, h1, h2, h3, by rw [hsz]; exact h4, fun i x hx => ?_⟩
    obtain ⟨b', off, he, hlt, hc⟩ := h5 i x hx
    injection he with he; injection he with e1 e2; subst e1 e2
    exact ⟨b, 0, rfl, by rw [hsz]; exact hlt, (World.cell?_of_block (a := ⟨b, 0 + i, none⟩) (keep b h2)).trans hc⟩

/-- What can be read of rows of rows: all in blocks before B. -/
def RRowsRd (u : World) (B : Nat) (OA : Option Addr) (k m : Nat) (F : Nat → List Int) : Prop :=
  ∀ j, j < k → ∃ ob b c, OA = some ⟨ob, 0, none⟩ ∧ ob < B ∧ u.cell? ⟨ob, j, none⟩ = some (.slice (some ⟨b, 0, none⟩) m c) ∧ IntsIn u B (some ⟨b, 0, none⟩) (F j)
theorem RRows.rd {u : World} {base : Nat} {OA : Option Addr} {k oc m : Nat} {F : Nat → List Int} (h : RRows u base OA k oc m F) : RRowsRd u u.heap.size OA k m F := by
  intro j hj
  have hblk := h.block
  obtain ⟨vs, hl, ho, hr⟩ := h
  obtain ⟨b, c, h1, h2, h3, h4, h5⟩ := hr j hj
  rcases ho.form (by omega) with ⟨g, cap, hv, hb, hg⟩
  injection hv with hA hn hcc
  subst hA hcc
  exact ⟨g, b, c, rfl, hg, by rw [World.ownsRow.cellAt ho j (by omega)]; exact h1, h5⟩
theorem RRowsRd.below {u u' : World} {B B' : Nat} {OA : Option Addr} {k m : Nat} {F : Nat → List Int} (h : RRowsRd u B OA k m F) (hb : Below B' u u') (hB : B ≤ B') : RRowsRd u' B OA k m F := by
  intro j hj
  obtain ⟨ob, b, c, h1, h2, h3, h4⟩ := h j hj
  exact ⟨ob, b, c, h1, h2, (hb.cell (p := ⟨ob, j, none⟩) (by simp; omega)).trans h3, h4.below hb hB⟩
end Go.Proofs.Ytdacfeebidhgnaa
