/- slices.Concat of two lists of edges. -/
import Derived.Test.YtdacfeebidhgnaaEd
import Derived.Test.YtdacfeebidhgnaaMark
import Derived.OwnWalk
namespace Go.Proofs.Ytdacfeebidhgnaa
open Go.RowKit
set_option maxRecDepth 100000

/-- From an address on, below block B, these edges lie. -/
def CellsAt (w : World) (B : Nat) (ad : Addr) (es : List (Int × Int)) : Prop := ad.block < B ∧ ∀ j u, (flat es)[j]? = some u → w.cell? (ad.add j) = some u
theorem CellsAt.below {w w' : World} {B B' : Nat} {ad : Addr} {es : List (Int × Int)} (h : CellsAt w B ad es) (hb : Below B' w w') (hB : B ≤ B') : CellsAt w' B ad es :=
  ⟨h.1, fun j u hu => (hb.cell (p := ad.add j) (by have := h.1; unfold Addr.add; split <;> simp <;> omega)).trans (h.2 j u hu)⟩
theorem CellsAt.of {w : World} {B b off : Nat} {es : List (Int × Int)} (h : EdgesIn w B (some ⟨b, off, none⟩) es) (hb : b < B) (i m : Nat) : CellsAt w B ⟨b, off + i * 2, none⟩ ((es.drop i).take m) := by
  refine ⟨hb, fun j u hu => ?_⟩
  have hl : j < ((es.drop i).take m).length * 2 := by rw [← flat_length]; exact (List.getElem?_eq_some_iff.1 hu).1
  have hk : j / 2 < ((es.drop i).take m).length := by omega
  have hf := flat_get _ (j / 2) _ (List.getElem?_eq_getElem hk)
  have hg : es[i + j / 2]? = some ((es.drop i).take m)[j / 2] := by
    rw [← List.getElem?_drop, ← List.getElem?_eq_getElem hk, List.getElem?_take, if_pos (by rw [List.length_take] at hk; omega)]
  obtain ⟨b', off', hA, _, g1, g2⟩ := h _ _ hg
  injection hA with hA
  injection hA with h1 h2
  subst h1 h2
  have hadd : (⟨b, off + i * 2, none⟩ : Addr).add j = ⟨b, off + i * 2 + j, none⟩ := by unfold Addr.add; split <;> simp_all
  rw [hadd]
  rcases (by omega : j = j / 2 * 2 ∨ j = j / 2 * 2 + 1) with h | h
  · rw [← h] at hf
    rw [show off + i * 2 + j = off + (i + j / 2) * 2 by omega, g1, ← hu, hf.1]
  · rw [← h] at hf
    rw [show off + i * 2 + j = off + (i + j / 2) * 2 + 1 by omega, g2, ← hu, hf.2]
theorem flat_oneCell (es : List (Int × Int)) : ∀ u ∈ flat es, u.oneCell' = true := by
  intro u hu
  simp only [flat, List.mem_flatMap, List.mem_cons, List.not_mem_nil, or_false] at hu
  obtain ⟨e, _, rfl | rfl⟩ := hu <;> rfl

def Grew (w : World) (e : Ending) (w' : World) : Prop := ∃ A c, e = .returned (.slice A 0 c) ∧ OwnE w' w.heap.size (.slice A 0 c) [] ∧ Below w.heap.size w w'
theorem grow_any (m : Nat) (w : World) (hm : m ≤ 1000) :
    Calls Try.prog 131 #[.slice none 0 0, .int .i64 m] w (Grew w) := by
  obtain ⟨i0, hi0, hz0, hz1, hz2⟩ := info_parts edge_info
  by_cases h0 : m = 0
  · subst h0
    go_enter Try.func131, Try.ntmps131
    go_wp2
    go_returns
    exact ⟨none, 0, rfl, OwnE.nil _ _, Below.refl _ _⟩
  · have hb16 : Try.t57.bytes = 16 := by kernel_rfl
    have hnx : Builtin.nextslicecap m 0 = m := by unfold Builtin.nextslicecap; simp; omega
    go_enter Try.func131, Try.ntmps131
    go_wp2_with fail
    go_returns
    have hge := grownCap_ge w m 0 57
    have hle := grownCap_le_maxLen w m 0 57 (by simp [maxLen]; omega)
    unfold grownCap at hge
    refine ⟨_, _, rfl, ?_, ?_⟩
    · exact World.ownsRow_made w _ _ (Nat.le_refl _) hle (by rw [Array.size_append, size_zeroCells, size_zeroCells]; show m * 2 + _ * 2 = _ * 2; omega)
    · exact ((Below.refl _ _).alloc (Nat.le_refl _) _).drew

def Joined (w : World) (es : List (Int × Int)) (e : Ending) (w' : World) : Prop := ∃ A c, e = .returned (.slice A es.length c) ∧ OwnE w' w.heap.size (.slice A es.length c) es ∧ Below w.heap.size w w'

theorem concat_any (sb : Nat) (a1 a2 : Addr) (n1 n2 c1 c2 : Nat) (es1 es2 : List (Int × Int)) (w : World) (h1 : w.cell? ⟨sb, 0, none⟩ = some (.slice (some a1) n1 c1)) (h2 : w.cell? ⟨sb, 1, none⟩ = some (.slice (some a2) n2 c2))
    (g1 : CellsAt w w.heap.size a1 es1) (g2 : CellsAt w w.heap.size a2 es2) (l1 : n1 = es1.length) (l2 : n2 = es2.length) (hl : n1 + n2 ≤ 100) :
    Calls Try.prog 98 #[.slice (some ⟨sb, 0, none⟩) 2 2] w (Joined w (es1 ++ es2)) := by
  obtain ⟨i0, hi0, hz0, hz1, hz2⟩ := info_parts edge_info
  have hsb := World.block_lt_of_cell? w _ h1
  have L1 := Lib.hid l1
  have L2 := Lib.hid l2
  clear l1 l2
  go_enter Try.func98, Try.ntmps98
  go_wp2_with fail
  refine wp_loop_rounds 3 ?_
  rw [rounds_succ]
  go_wp2_with fail
  rw [rounds_succ]
  go_wp2_with fail
  rw [rounds_succ]
  go_wp2_with fail
  rw [← Int.natCast_add]
  refine (grow_any (n1 + n2) w (by omega)).mono ?_
  rintro e1 w1 ⟨A, c, rfl, hown, hb⟩
  have G1 := g1.below hb (Nat.le_refl _)
  have G2 := g2.below hb (Nat.le_refl _)
  have k1 : w1.cell? ⟨sb, 0, none⟩ = some (.slice (some a1) n1 c1) := (hb.cell (p := ⟨sb, 0, none⟩) hsb).trans h1
  have k2 : w1.cell? ⟨sb, 1, none⟩ = some (.slice (some a2) n2 c2) := (hb.cell (p := ⟨sb, 1, none⟩) hsb).trans h2
  have hsz := hb.size
  clear h1 h2 g1 g2
  go_wp2_with fail
  refine wp_loop_rounds 3 ?_
  rw [rounds_succ]
  go_wp2_with (at_builtin; refine wpList_append_own _ rfl (.tmp 31) (.tmp 32) 27 rfl w.heap.size 57 i0 _ 2 16 Try.underlying27 hi0 hz0 hz1 hz2 rfl (by omega) (.slice A 0 c) 0 (flat []) rfl hown a1 n1 c1 (flat es1) rfl (by rw [flat_length, L1.out]) G1.2 (flat_oneCell es1) (by simp [maxLen]; omega) (by omega) hsz ?_; intro v5 w5 hown5 hgrow _)
  have hb5 : Below w.heap.size w1 w5 := (Below.refl _ _).grown hgrow hsz (fun k hk => (World.ownsRow.lt hown k hk).1)
  have k1 := (hb5.cell (p := ⟨sb, 0, none⟩) hsb).trans k1
  have k2 := (hb5.cell (p := ⟨sb, 1, none⟩) hsb).trans k2
  have G2 := G2.below hb5 (Nat.le_refl _)
  have hsz5 := Nat.le_trans hsz hb5.size
  rw [rounds_succ]
  go_wp2_with (at_builtin; refine wpList_append_own _ rfl (.tmp 31) (.tmp 32) 27 rfl w.heap.size 57 i0 _ 2 16 Try.underlying27 hi0 hz0 hz1 hz2 rfl (by omega) v5 (0 + n1) (flat [] ++ flat es1) rfl hown5 a2 n2 c2 (flat es2) rfl (by rw [flat_length, L2.out]) G2.2 (flat_oneCell es2) (by simp [maxLen]; omega) (by omega) hsz5 ?_; intro v6 w6 hown6 hgrow6 _)
  have hb6 : Below w.heap.size w5 w6 := (Below.refl _ _).grown hgrow6 hsz5 (fun k hk => (World.ownsRow.lt hown5 k hk).1)
  rw [rounds_succ]
  go_wp2_with fail
  go_returns
  have hO : OwnE w6 w.heap.size v6 (es1 ++ es2) := by
    unfold OwnE
    rw [flat_append, List.length_append, ← L1.out, ← L2.out]
    simpa [flat] using hown6
  have hbel := (hb.trans hb5).trans hb6
  rcases hO.form with ⟨rfl, he⟩ | ⟨g, cc, rfl, _⟩
  · rw [he] at hO ⊢
    exact ⟨none, 0, rfl, hO, hbel⟩
  · exact ⟨_, _, rfl, hO, hbel⟩
end Go.Proofs.Ytdacfeebidhgnaa
