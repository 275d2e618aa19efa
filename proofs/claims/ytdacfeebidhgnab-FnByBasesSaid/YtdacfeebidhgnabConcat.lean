/- slices.Concat of two lists of edges. -/
import Derived.Test.YtdacfeebidhgnabEd
import Derived.Test.YtdacfeebidhgnabMark
import Derived.OwnWalk
namespace Go.Proofs.Ytdacfeebidhgnab
open Go.RowKit
set_option maxRecDepth 100000

/-- From an address on, below block B, these edges lie. -/
def CellsAt (w : World) (B : Nat) (ad : Addr) (es : List (Int × Int)) : Prop := ad.block < B ∧ ∀ j u, (flat es)[j]? = some u → w.cell? (ad.add j) = some u
theorem CellsAt.below {w w' : World} {B B' : Nat} {ad : Addr} {es : List (Int × Int)} (h : CellsAt w B ad es) (hb : Below B' w w') (hB : B ≤ B') : CellsAt w' B ad es :=
  ⟨h.1, fun j u hu => (hb.cell (p := ad.add j) (by have := h.1; unfold Addr.add; split <;> simp <;> omega)).trans (h.2 j u hu)⟩
theorem CellsAt.of {w : World} {B b off : Nat} {es : List (Int × Int)} (h : EdgesIn w B (some ⟨b, off, none⟩) es) (hb : b < B) (i m : Nat) : CellsAt w B ⟨b, off + i * 2, none⟩ ((es.drop i).take m) := by
  refine ⟨hb, fun j u hu => ?_⟩
  have hl : j < ((es.drop i).take m).length * 2 := by rw [← flat_length]; exact (List.getElem?_eq_some_iff.1 hu).1
  have hk : j / 2 < ((es.drop i).take m).length := by omega
  have hf := flat_get _ (j / 2) _ (List.getElem?_eq_getElem hk)
  have hg : es[i + j / 2]? = some ((es.drop i).take m)[j / 2] := by
    rw [← List.getElem?_drop, ← List.getElem?_eq_getElem hk, List.getElem?_take, if_pos (by rw [List.length_take] at hk; omega)]
  obtain ⟨b', off', hA, _, g1, g2⟩ := h _ _ hg
  injection hA with hA
  injection hA with h1 h2
  subst h1 h2
  have hadd : (⟨b, off + i * 2, none⟩ : Addr).add j = ⟨b, off + i * 2 + j, none⟩ := by unfold Addr.add; split <;> simp_all
  rw [hadd]
  rcases (by omega : j = j / 2 * 2 ∨ j = j / 2 * 2 + 1) with h | h
  · rw [← h] at hf
    rw [show off + i * 2 + j = off + (i + j / 2) * 2 by omega, g1, ← hu, hf.1]
  · rw [← h] at hf
    rw [show off + i * 2 + j = off + (i + j / 2) * 2 + 1 by omega, g2, ← hu, hf.2]
theorem flat_oneCell (es : List (Int × Int)) : ∀ u ∈ flat es, u.oneCell' = true := by
  intro u hu
  simp only [flat, List.mem_flatMap, List.mem_cons, List.not_mem_nil, or_false] at hu
  obtain ⟨e, _, rfl | rfl⟩ := hu <;> rfl

def Grew (w : World) (e : Ending) (w' : World) : Prop := ∃ A c, e = .returned (.slice A 0 c) ∧ OwnE w' w.heap.size (.slice A 0 c) [] ∧ Below w.heap.size w w'
def Joined (w : World) (es : List (Int × Int)) (e : Ending) (w' : World) : Prop := ∃ A c, e = .returned (.slice A es.length c) ∧ OwnE w' w.heap.size (.slice A es.length c) es ∧ Below w.heap.size w w'

end Go.Proofs.Ytdacfeebidhgnab
