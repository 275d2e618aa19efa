/- A code, opened; and what every law of the first kind shares. -/
import Derived.Test.YtdacfeebidhgnaaMark
import Derived.Test.YtdacfeebidhgnaaDraws
import Derived.Test.YtdacfeebidhgnaaNetOk
namespace Go.Proofs.Ytdacfeebidhgnaa
open Go.ChangeShapes Go.WideShapes Go.ChangeAt Go.RowKit Go.Deep Go.Joins
set_option maxRecDepth 100000

theorem open_bytes {H : Type} {enc : TypeId × Value → H} {w : World} {base : Nat} {r : Reach} {b0 : Nat} {v : Value} {d : DataW H} {p : List MemPlace}
    (hv : Value.okWide Try.prog w r b0 44 v) (h : DataW.Trod enc Try.prog w base (fun _ => true) true 44 v d p) :
    ∃ (A : Option Addr) (cap l : Nat), v = .slice A l cap ∧ BytesIn w w.heap.size A l ∧ l ≤ cap := by
  obtain ⟨A, l, cap, rfl⟩ := okWide_slice Try.underlying44 hv
  obtain ⟨fuel, hf⟩ := h
  rcases open_ints Try.underlying44 Try.underlying5 (by kernel_rfl) hf with ⟨hcs, _⟩ | ⟨x, l', c', zs, hcs, _, hl, hm, hz, _, hcell, hwz⟩
  · simp [Value.cells] at hcs
    obtain ⟨rfl, rfl, rfl⟩ := hcs
    exact ⟨none, 0, 0, rfl, fun k hk => by omega, Nat.le_refl _⟩
  · simp [Value.cells] at hcs
    obtain ⟨rfl, rfl, rfl⟩ := hcs
    simp only [if_true] at hz
    refine ⟨_, _, _, rfl, fun k hk => ?_, hl⟩
    obtain ⟨b, off, spot⟩ := x
    have hs : spot = none := by simpa [Addr.add] using World.cell?_spot (hcell 0 (by omega))
    subst hs
    have hc := hcell k (by omega)
    rw [add_plain] at hc
    have hlt := World.block_lt_of_cell? w _ hc
    have hw := hwz (zs.getD k 0) (by rw [List.getD_eq_getElem?_getD, List.getElem?_eq_getElem (by omega)]; exact List.getElem_mem _)
    have hx : 0 ≤ zs.getD k 0 ∧ zs.getD k 0 ≤ 255 := by simpa [Lit.wf, IntKind.min, IntKind.max, IntKind.signed, IntKind.bits] using hw
    exact ⟨b, off, _, rfl, hlt, hc, hx.1, hx.2⟩

theorem OwnE.cap {w : World} {base n c : Nat} {A : Option Addr} {es : List (Int × Int)} (h : OwnE w base (.slice A n c) es) : es.length ≤ c := by
  rcases h.2 with ⟨hv, h0⟩ | ⟨g, cap, cur, hv, _, _, hnc, _⟩
  · injection hv with _ _ h3; omega
  · injection hv with _ _ h3; omega

theorem netOk_lit (n : Int) (w : World) (b : Bool) (h : netOkB n [] = b) :
    Calls Try.prog 37 #[.agg #[.int .i64 n, .slice none 0 0]] w fun e w' => e = .returned (.bool b) ∧ Below w.heap.size w w' :=
  h ▸ netOk_any n none 0 [] w EdgesIn.nil (by simp)
theorem netOk_two (w : World) : Calls Try.prog 37 #[.agg #[.int .i64 2, .slice none 0 0]] w fun e w' => e = .returned (.bool true) ∧ Below w.heap.size w w' := netOk_lit 2 w true (by decide)
theorem netOk_one (w : World) : Calls Try.prog 37 #[.agg #[.int .i64 1, .slice none 0 0]] w fun e w' => e = .returned (.bool false) ∧ Below w.heap.size w w' := netOk_lit 1 w false (by decide)
theorem netOk_zero (w : World) : Calls Try.prog 37 #[.agg #[.int .i64 0, .slice none 0 0]] w fun e w' => e = .returned (.bool false) ∧ Below w.heap.size w w' := netOk_lit 0 w false (by decide)

theorem alive_any (w : World) : Calls Try.prog 38 #[] w fun e w' => e = .returned (.bool true) ∧ Below w.heap.size w w' := by
  go_enter Try.func38, Try.ntmps38
  go_wp2_with fail
  refine (netOk_two _).mono ?_
  rintro e1 w1 ⟨rfl, hb1⟩
  go_wp2_with fail
  refine (netOk_zero _).mono ?_
  rintro e2 w2 ⟨rfl, hb2⟩
  go_wp2_with fail
  go_returns
  exact ⟨rfl, hb1.trans (hb2.mono hb1.size)⟩
end Go.Proofs.Ytdacfeebidhgnaa
