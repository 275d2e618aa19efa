/- The law FnThinnestOf holds of every code: as many paths apart as the thinnest cut has edges; at most the edges at either node. -/
import Derived.Test.YtlcgbmeneajfoacBytes
import Derived.Test.YtlcgbmeneajfoacDrawT4
import Derived.Test.YtlcgbmeneajfoacFacts4
import Derived.Test.YtlcgbmeneajfoacSpec4b
import Derived.Test.YtlcgbmeneajfoacObj
namespace Go.Proofs.Ytlcgbmeneajfoac
open Go.RowKit
set_option maxRecDepth 100000

set_option maxHeartbeats 4000000 in
theorem thinnestOf_law (A : Option Addr) (cap l : Nat) (w : World) (hb : BytesIn w w.heap.size A l) (hc : l ≤ cap) :
    Calls Try.prog 6 #[.slice A l cap] w fun e w' => e = .returned (.bool true) ∧ Below w.heap.size w w' := by
  by_cases hbig : 1048576 < l
  · go_enter Try.func6, Try.ntmps6
    go_wp2
    go_returns
    exact ⟨rfl, Below.refl _ _⟩
  · have hl : l ≤ 1048576 := by omega
    clear hbig
    go_enter Try.func6, Try.ntmps6
    go_wp2_with fail
    refine (drawThinnestOf_any _ _ _ _ hb hl hc).mono ?_
    rintro e1 w1 ⟨n, A1, c, es, a, b, rfl, own, n1, n7, hle, a1, a2, b1, b2, hb1⟩
    have L1 := ArgNet.start (cap := c) (n := n) 30 own.edges
    have HB := Lib.hid hb1
    have hle' : es.length ≤ 1048576 := by omega
    have s1 := hb1.size
    clear own hb hb1
    have HI : Hid (∀ u, EdgesIn u u.heap.size A1 es → Calls Try.prog 27 #[.agg #[.int .i64 n, .slice A1 es.length c], .int .i64 a, .int .i64 b] u fun e w' => e = .returned (.int .i64 (minAll (cutsN n es a b))) ∧ Below u.heap.size u w') := fun u h => thinnestOf_any n a b A1 c es u h hle'
    have HS : Hid (∀ u, EdgesIn u u.heap.size A1 es → Calls Try.prog 28 #[.agg #[.int .i64 n, .slice A1 es.length c], .int .i64 a, .int .i64 b] u fun e w' => e = .returned (.int .i64 (minAll (cutsN n es a b))) ∧ Below u.heap.size u w') := fun u h => specThinnestOf_any n a b A1 c es u h hle'
    by_cases hok : joinOkB n es a b = true
    · obtain ⟨t1, t2, t3, t4⟩ := thin_law hok
      have HA : Hid (∀ u, EdgesIn u u.heap.size A1 es → Calls Try.prog 29 #[.agg #[.int .i64 n, .slice A1 es.length c], .int .i64 a, .int .i64 b] u fun e w' => e = .returned (.int .i64 (minAll (cutsN n es a b))) ∧ Below u.heap.size u w') := fun u h => by rw [t1]; exact apartPaths_any n a b A1 c es u h hle'
      have HE : Hid (∀ (v : Int) u, EdgesIn u u.heap.size A1 es → Calls Try.prog 30 #[.agg #[.int .i64 n, .slice A1 es.length c], .int .i64 v] u fun e w' => e = .returned (.int .i64 (degI n es v)) ∧ Below u.heap.size u w') := fun v u h => edgesAt_any n v A1 c es u h hle'
      have HEa := Lib.hid (HE.out a)
      have HEb := Lib.hid (HE.out b)
      clear t1 HE
      generalize degI n es a = da at *
      generalize degI n es b = db at *
      generalize minAll (cutsN n es a b) = m at *
      have hm0 : ¬ m < 0 := by omega
      clear hok
      have c0 := L1.c0
      have c1 := L1.c1
      go_wp2_with fail
      refine (HI.out _ L1.edges).mono ?_
      rintro e2 w2 ⟨rfl, hb2⟩
      have L2 := L1.step hb2 L1.lt
      clear hb2 L1 c0 c1
      have c0 := L2.c0
      have c1 := L2.c1
      go_wp2_with fail
      refine (HS.out _ L2.edges).mono ?_
      rintro e3 w3 ⟨rfl, hb3⟩
      have L3 := L2.step hb3 L2.lt
      clear hb3 L2 c0 c1
      have c0 := L3.c0
      have c1 := L3.c1
      go_wp2_with fail
      refine (HA.out _ L3.edges).mono ?_
      rintro e4 w4 ⟨rfl, hb4⟩
      have L4 := L3.step hb4 L3.lt
      clear hb4 L3 c0 c1
      have c0 := L4.c0
      have c1 := L4.c1
      go_wp2_with fail
      refine (HEa.out _ L4.edges).mono ?_
      rintro e5 w5 ⟨rfl, hb5⟩
      have L5 := L4.step hb5 L4.lt
      clear hb5 L4 c0 c1
      have c0 := L5.c0
      have c1 := L5.c1
      go_wp2_with fail
      refine (HEb.out _ L5.edges).mono ?_
      rintro e6 w6 ⟨rfl, hb6⟩
      have L6 := L5.step hb6 L5.lt
      clear hb6 L5 c0 c1
      go_wp2_with fail
      go_returns
      exact ⟨rfl, HB.out.trans (L6.below.mono s1)⟩
    · rw [thin_not hok] at HI HS
      clear hok
      have c0 := L1.c0
      have c1 := L1.c1
      go_wp2_with fail
      refine (HI.out _ L1.edges).mono ?_
      rintro e2 w2 ⟨rfl, hb2⟩
      have L2 := L1.step hb2 L1.lt
      clear hb2 L1 c0 c1
      have c0 := L2.c0
      have c1 := L2.c1
      go_wp2_with fail
      refine (HS.out _ L2.edges).mono ?_
      rintro e3 w3 ⟨rfl, hb3⟩
      have L3 := L2.step hb3 L2.lt
      clear hb3 L2 c0 c1
      have c0 := L3.c0
      have c1 := L3.c1
      go_wp2_with fail
      refine (alive_any _).mono ?_
      rintro e4 w4 ⟨rfl, hb4⟩
      have L4 := L3.step hb4 L3.lt
      go_wp2_with fail
      go_returns
      exact ⟨rfl, HB.out.trans (L4.below.mono s1)⟩

namespace fnThinnestOf
open Go.ChangeShapes Go.WideShapes Go.ChangeAt Go.RowKit Go.Deep Go.Joins
set_option linter.unusedVariables false
set_option maxRecDepth 100000 in
theorem lifted (os : Os) (started : os.Started) (H : Type) (enc : TypeId × Value → H) :
    ReturnsInHanded {} Try.checked os 6 .any (Rows.fnThinnestOfSpec.pre6 enc Try.prog Try.f6 Rows.fnThinnestOfRow.domain false) (Rows.fnThinnestOfSpec.post enc Try.prog Try.f6 false true false false) := by
  refine returnsInHanded_of_change (C := Try.checked) own started (by kernel_rfl) Try.func6
    (ChangeSpec.witness6 (enc := enc) (C := Try.checked) false ⟨#[], #[.slice none 0 0], []⟩ 8 (by kernel_rfl) (by kernel_rfl) (by kernel_rfl) (by kernel_rfl)) ?_
  intro W base args ds gs before hval0 hW hcnd _
  have hval : ∀ (j : Nat) t v, Try.f6.params[j]? = some t → args[j]? = some v → Value.okWide Try.prog W .any base t v := hval0
  have hW' := hW
  obtain ⟨p, q, hA0, hV, rfl, hfz, hnd⟩ := hW
  have hA : DataW.TrodAll enc Try.prog W 0 (fun _ => true) true Try.f6.params.toList args.toList ds p := hA0
  rw [Try.params6] at hA hval
  obtain ⟨v0, vs0, d0, ds0, p0, q0, hargs, rfl, rfl, h0, r0⟩ := trodAll_cons hA
  obtain ⟨rfl, rfl, rfl⟩ := trodAll_nil r0
  obtain rfl : args = #[v0] := by cases args; simp_all
  obtain ⟨rfl, rfl⟩ := trodVars_none hV
  have k0 := h0
  have lt0 : ∀ x ∈ p0, x.block < W.heap.size := by obtain ⟨m, hm⟩ := k0; exact DataW.trod_lt m _ _ _ hm
  obtain ⟨A0, c0, bs0, rfl, hb0, hl0⟩ := open_bytes (hval 0 37 v0 rfl rfl) h0
  clear hA0 hval0
  refine (thinnestOf_law A0 c0 bs0 W hb0 hl0).mono fun e W' ⟨he, bel⟩ => ?_
  subst he
  exact ⟨_, rfl, _, _, _, [], _, [], hW', trodAll_mk1 (shut_bool Try.underlying4 _), (trodAll_cons_mk (Below.trod laidOut (by kernel_rfl) (of_decide_eq_true (by kernel_rfl)) k0 bel lt0) trodAll_mk0), rfl, bel.frame _, fun h => by cases h⟩

theorem holds : Rows.FnThinnestOfSaid :=
  OpenClaim.holds_of_wide 6 Try.f6 rfl rfl rfl rfl rfl rfl rfl ⟨rfl, rfl, rfl, rfl, rfl⟩ rfl rfl rfl rfl rfl (by kernel_rfl) Try.func6 (by kernel_rfl)
    (of_decide_eq_true (by kernel_rfl)) (by unfold Func.isWrapper; first | (rw [if_pos (by decide +kernel)]; kernel_rfl) | (rw [if_neg (by decide +kernel)]; exact ⟨rfl, rfl⟩))
    (fun os started H enc _ => lifted os started H enc)
end fnThinnestOf

end Go.Proofs.Ytlcgbmeneajfoac
