/- What a row that lists tables gives the walks: the tables' cells. -/
import Derived.Test.YtcmomghlepmogaaDoorShell
import Derived.Test.YtcmomghlepmogaaDoorImpl7
import Derived.Lib.LaidTab
import Derived.Lay
import Derived.OpenVars
import Derived.SevenTiedAt
namespace Go.Proofs.YtcmomghlepmogaaDoor
open Go.ChangeShapes Go.WideShapes Go.ChangeAt Go.RowKit Go.Deep Go.Joins
set_option maxRecDepth 100000

theorem laidVar_of {P : Program} {W : World} : ∀ {laid : List (String × DataW Unit)} {ps : List MemPlace} {n : String} {d : DataW Unit}, DataW.LaidVars P W laid ps → (n, d) ∈ laid →
    ∃ g t cs fuel p, P.globalNamed n = some g ∧ (P.globals[g]?).map (·.type) = some t ∧ W.var? P n = some cs ∧ DataW.trod (fun _ => ()) P W 0 (fun _ => true) false fuel t cs.toList = some (d, p)
  | [], _, _, _, _, hm => by cases hm
  | (n', d') :: r, _, n, d, h, hm => by
    obtain ⟨g, t, cs, fuel, p, q, h1, h2, h3, h4, hr, -⟩ := h
    rcases List.mem_cons.1 hm with e | hm
    · injection e with e1 e2; subst e1 e2
      exact ⟨g, t, cs, fuel, p, h1, h2, h3, h4⟩
    · exact laidVar_of hr hm

/-- An array of pairs of integers, cell by cell. -/
theorem pairs_cells {P : Program} {W : World} {t e : TypeId} {n fuel : Nat} {ti : TypeId} {n0 n1 : Field} {cs : List Value} {ps : List (Int × Int)} {p : List MemPlace}
    (ht : P.underlying t = some (.array n e)) (he : P.underlying e = some (.struct #[n0, n1])) (h0 : n0.type = ti ∧ n0.offset = 0) (h1 : n1.type = ti ∧ n1.offset = 1) (hi : P.underlying ti = some (.int .i64)) (hce : P.cellsOf e = 2) (hci : P.cellsOf ti = 1)
    (h : DataW.trod (fun _ => ()) P W 0 (fun _ => true) false fuel t cs = some (.agg (ps.map fun q => .agg [.lit (.int .i64 q.1), .lit (.int .i64 q.2)]), p)) :
    ∀ i, i < ps.length → cs[i * 2]? = some (.int .i64 (ps.getD i (0, 0)).1) ∧ cs[i * 2 + 1]? = some (.int .i64 (ps.getD i (0, 0)).2) := by
  obtain ⟨xs, m, -, hx, -, hlen, hel⟩ := DataW.trod_array ht h
  injection hx with hx _
  injection hx with hx
  have hpl : ps.length = n := by
    have := congrArg List.length hx
    simpa [hlen] using this
  intro i hil
  obtain ⟨y, hy⟩ : ∃ y, xs[i]? = some y := ⟨xs[i], List.getElem?_eq_getElem (by omega)⟩
  have h2 := hel i (by omega)
  rw [hy, hce] at h2
  obtain ⟨y0, y1, m2, rfl, -, k0, k1⟩ := trod_struct2 he h2
  rw [h0.1, h0.2, hci] at k0
  rw [h1.1, h1.2, hci] at k1
  obtain ⟨z0, c0, rfl, -⟩ := DataW.trod_int hi k0
  obtain ⟨z1, c1, rfl, -⟩ := DataW.trod_int hi k1
  have hv : (ps.map fun q => (DataW.agg [.lit (.int .i64 q.1), .lit (.int .i64 q.2)] : DataW Unit))[i]? = some (.agg [.lit (.int .i64 z0), .lit (.int .i64 z1)]) := by
    rw [hx, List.getElem?_map, hy]; rfl
  rw [List.getElem?_map, List.getElem?_eq_getElem hil] at hv
  simp only [Option.map_some, Option.some.injEq, DataW.agg.injEq, List.cons.injEq, DataW.lit.injEq, Lit.int.injEq, true_and, and_true] at hv
  have hg : ps.getD i (0, 0) = ps[i] := by simp [List.getD, hil]
  rw [hg, hv.1, hv.2]
  have g0 := congrArg (·[0]?) c0
  have g1 := congrArg (·[0]?) c1
  simp only [List.getElem?_take, List.getElem?_drop, List.getElem?_cons_zero] at g0 g1
  simp at g0 g1
  exact ⟨by simpa using g0, by simpa using g1⟩
theorem flatOf_get : ∀ (ps : List (Int × Int)) (i : Nat), i < ps.length → (flatOf ps).getD (i * 2) 0 = (ps.getD i (0, 0)).1 ∧ (flatOf ps).getD (i * 2 + 1) 0 = (ps.getD i (0, 0)).2
  | [], _, h => by cases h
  | q :: ps, 0, _ => by simp [flatOf]
  | q :: ps, i + 1, h => by
    have ih := flatOf_get ps i (by simpa using h)
    have e : flatOf (q :: ps) = q.1 :: q.2 :: flatOf ps := rfl
    rw [e, show (i + 1) * 2 = i * 2 + 1 + 1 by omega]
    simpa using ih
theorem flatOf_length (ps : List (Int × Int)) : (flatOf ps).length = ps.length * 2 := by
  induction ps with
  | nil => rfl
  | cons q ps ih => have e : flatOf (q :: ps) = q.1 :: q.2 :: flatOf ps := rfl; rw [e]; simp [ih]; omega
theorem tabAt_pairs {P : Program} {W : World} {nm : String} {g : Nat} {cs : Array Value} {ps : List (Int × Int)} (hne : 0 < ps.length) (hg : P.globalNamed nm = some g) (hv : W.var? P nm = some cs)
    (h : ∀ i, i < ps.length → cs.toList[i * 2]? = some (.int .i64 (ps.getD i (0, 0)).1) ∧ cs.toList[i * 2 + 1]? = some (.int .i64 (ps.getD i (0, 0)).2)) : TabAt W g .i64 (flatOf ps) := by
  have hc : ∀ i, i < (flatOf ps).length → W.cell? ⟨g, i, none⟩ = some (.int .i64 ((flatOf ps).getD i 0)) := fun i hi => by
    rw [flatOf_length] at hi
    rw [World.var?_cell hg hv i]
    have hj := h (i / 2) (by omega)
    have hf := flatOf_get ps (i / 2) (by omega)
    rcases Nat.mod_two_eq_zero_or_one i with e | e
    · rw [show i / 2 * 2 = i by omega] at hj hf
      rw [hf.1]; simpa using hj.1
    · rw [show i / 2 * 2 + 1 = i by omega] at hj hf
      rw [hf.2]; simpa using hj.2
  exact ⟨World.block_lt_of_cell? W _ (hc 0 (by rw [flatOf_length]; omega)), hc⟩

theorem laidT_of {W : World} {laid : List (String × DataW Unit)} (h : laidMet Tryd.prog laid W) (hm : ("loop.example/failingnets/impl.touchSteps", Rows.laid_loop_example_failingnets_impl_touchSteps) ∈ laid) : LaidT W := by
  obtain ⟨ps, hl, -⟩ := h
  obtain ⟨g, t, cs, fuel, p, h1, h2, h3, h4⟩ := laidVar_of hl hm
  have hg : Tryd.prog.globalNamed "loop.example/failingnets/impl.touchSteps" = some 1 := by kernel_rfl
  have ht : (Tryd.prog.globals[(1 : Nat)]?).map (·.type) = some 84 := by kernel_rfl
  obtain rfl := Option.some.inj (hg.symm.trans h1)
  obtain rfl := Option.some.inj (ht.symm.trans h2)
  exact tabAt_pairs (by decide) hg h3 (pairs_cells (ps := tSteps) Tryd.underlying84 Tryd.underlying68 ⟨rfl, rfl⟩ ⟨rfl, rfl⟩ Tryd.underlying3 (by kernel_rfl) (by kernel_rfl) h4)
theorem laidS_of {W : World} {laid : List (String × DataW Unit)} (h : laidMet Tryd.prog laid W) (hm : ("loop.example/failingnets/impl.sideSteps", Rows.laid_loop_example_failingnets_impl_sideSteps) ∈ laid) : LaidS W := by
  obtain ⟨ps, hl, -⟩ := h
  obtain ⟨g, t, cs, fuel, p, h1, h2, h3, h4⟩ := laidVar_of hl hm
  have hg : Tryd.prog.globalNamed "loop.example/failingnets/impl.sideSteps" = some 0 := by kernel_rfl
  have ht : (Tryd.prog.globals[(0 : Nat)]?).map (·.type) = some 77 := by kernel_rfl
  obtain rfl := Option.some.inj (hg.symm.trans h1)
  obtain rfl := Option.some.inj (ht.symm.trans h2)
  exact tabAt_pairs (by decide) hg h3 (pairs_cells (ps := sSteps) Tryd.underlying77 Tryd.underlying68 ⟨rfl, rfl⟩ ⟨rfl, rfl⟩ Tryd.underlying3 (by kernel_rfl) (by kernel_rfl) h4)
theorem laidZ_of {W : World} {laid : List (String × DataW Unit)} (h : laidMet Tryd.prog laid W) (hm : ("math/bits.deBruijn64tab", Rows.laid_math_bits_deBruijn64tab) ∈ laid) : LaidZ W := by
  obtain ⟨ps, hl, -⟩ := h
  obtain ⟨g, t, cs, fuel, p, h1, h2, h3, h4⟩ := laidVar_of hl hm
  have hg : Tryd.prog.globalNamed "math/bits.deBruijn64tab" = some 3 := by kernel_rfl
  have ht : (Tryd.prog.globals[(3 : Nat)]?).map (·.type) = some 86 := by kernel_rfl
  obtain rfl := Option.some.inj (hg.symm.trans h1)
  obtain rfl := Option.some.inj (ht.symm.trans h2)
  have hcs := Lib.cells_of_tab (zs := Lib.deBruijn64tab.map Int.ofNat) Tryd.underlying86 Tryd.underlying5 (by kernel_rfl) (by kernel_rfl) h4
  have hc : ∀ i, i < (Lib.deBruijn64tab.map Int.ofNat).length → W.cell? ⟨3, i, none⟩ = some (.int .u8 ((Lib.deBruijn64tab.map Int.ofNat).getD i 0)) := fun i hi => by
    have key : ∀ zs : List Int, cs.toList = zs.map (fun z => Value.int .u8 z) → i < zs.length → cs[i]? = some (.int .u8 (zs.getD i 0)) := fun zs hz hl => by
      rw [← Array.getElem?_toList, hz, List.getElem?_map, List.getElem?_eq_getElem hl]
      simp [List.getD, hl]
    rw [World.var?_cell hg h3 i]
    exact key _ hcs hi
  exact ⟨World.block_lt_of_cell? W _ (hc 0 (by decide)), hc⟩
end Go.Proofs.YtcmomghlepmogaaDoor
