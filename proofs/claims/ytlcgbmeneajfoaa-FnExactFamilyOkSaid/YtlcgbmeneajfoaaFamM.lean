/- Families in memory: a law's argument opened. -/
import Derived.Test.YtlcgbmeneajfoaaObj
import Derived.Test.YtlcgbmeneajfoaaOpenRow
namespace Go.Proofs.Ytlcgbmeneajfoaa
open Go.ChangeShapes Go.WideShapes Go.ChangeAt Go.RowKit Go.Deep Go.Joins
set_option linter.unusedVariables false
set_option maxRecDepth 100000

theorem open_family {H : Type} {enc : TypeId × Value → H} {w : World} {base : Nat} {r : Reach} {b0 : Nat} {v : Value} {d : DataW H} {p : List MemPlace}
    (hv : Value.okWide Try.prog w r b0 24 v) (h : DataW.Trod enc Try.prog w base (fun _ => true) true 24 v d p) :
    ∃ (n : Int) (A : Option Addr) (cap : Nat) (xs : List Int), v = .agg #[.int .i64 n, .slice A xs.length cap] ∧ IntsIn w w.heap.size A xs ∧ xs.length ≤ maxLen ∧ (Lit.int .i64 n).wf = true := by
  obtain ⟨v0, v1, y0, y1, m, rfl, _, _, h0, h1⟩ := open_agg2 Try.underlying24 (by kernel_rfl) (by kernel_rfl) hv h
  obtain ⟨n, e0, _, wf⟩ := DataW.trod_int Try.underlying3 h0
  injection e0 with e0
  subst e0
  rcases open_ints Try.underlying22 Try.underlying3 (by kernel_rfl) h1 with ⟨hcs, _⟩ | ⟨x, l, c, zs, hcs, _, hl, hm, hz, _, hcell, _⟩
  · injection hcs with hcs
    subst hcs
    exact ⟨n, none, 0, [], rfl, IntsIn.nil, by simp [maxLen], wf⟩
  · injection hcs with hcs
    subst hcs
    simp only [if_true] at hz
    have hlen : (zs.take l).length = l := by rw [List.length_take]; omega
    refine ⟨n, some x, c, zs.take l, by rw [hlen], fun k y hk => ?_, by rw [hlen]; omega, wf⟩
    have hkl : k < l := by have := (List.getElem?_eq_some_iff.1 hk).1; omega
    obtain ⟨b, off, spot⟩ := x
    have hs : spot = none := by simpa [Addr.add] using World.cell?_spot (hcell 0 (by omega))
    subst hs
    have hc := hcell k (by omega)
    rw [add_plain] at hc
    have hy : zs.getD k 0 = y := by
      rw [List.getElem?_take_of_lt hkl] at hk
      rw [List.getD_eq_getElem?_getD, hk]; rfl
    rw [hy] at hc
    exact ⟨b, off, rfl, World.block_lt_of_cell? w _ hc, hc⟩
end Go.Proofs.Ytlcgbmeneajfoaa
