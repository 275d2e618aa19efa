/- The law FnApartPaths holds of every code: paths apart times the shortest path are at most the edges; for both nodes exchanged it is the same; it is 0 exactly if both are never joined. -/
import Derived.Test.YtlcgbmeneajfoacBytes
import Derived.Test.YtlcgbmeneajfoacDrawT4
import Derived.Test.YtlcgbmeneajfoacFacts4
import Derived.Test.YtlcgbmeneajfoacSpec4b
import Derived.Test.YtlcgbmeneajfoacObj
namespace Go.Proofs.Ytlcgbmeneajfoac
open Go.RowKit
set_option maxRecDepth 100000

theorem pow_parts {l : Nat} (h : l ≤ 9) : ∃ P : Nat, 2 ^ l = P ∧ 1 ≤ P ∧ P ≤ 512 ∧ wrap64 (2 ^ l) = (P : Int) ∧ IntKind.i64.wrap ((P : Int) - 1) = ((P - 1 : Nat) : Int) := by
  obtain ⟨P, h1, h2, h3, h4, _⟩ := pow_named h
  exact ⟨P, h1, h2, h3, h4, by rw [IntWalk.i64_in _ (by omega)]; omega⟩
set_option maxHeartbeats 4000000 in
theorem apartPaths_law (A : Option Addr) (cap l : Nat) (w : World) (hb : BytesIn w w.heap.size A l) (hc : l ≤ cap) :
    Calls Try.prog 8 #[.slice A l cap] w fun e w' => e = .returned (.bool true) ∧ Below w.heap.size w w' := by
  by_cases hbig : 1048576 < l
  · go_enter Try.func8, Try.ntmps8
    go_wp2
    go_returns
    exact ⟨rfl, Below.refl _ _⟩
  · have hl : l ≤ 1048576 := by omega
    clear hbig
    go_enter Try.func8, Try.ntmps8
    go_wp2_with fail
    refine (drawApartPaths_any _ _ _ _ hb hl hc).mono ?_
    rintro e1 w1 ⟨n, A1, c, es, a, b, rfl, own, n1, n7, hle, a1, a2, b1, b2, hb1⟩
    have L1 := ArgNet.start (cap := c) (n := n) 30 own.edges
    have HB := Lib.hid hb1
    have hle' : es.length ≤ 1048576 := by omega
    have s1 := hb1.size
    clear own hb hb1
    have HI : Hid (∀ u, EdgesIn u u.heap.size A1 es → Calls Try.prog 29 #[.agg #[.int .i64 n, .slice A1 es.length c], .int .i64 a, .int .i64 b] u fun e w' => e = .returned (.int .i64 (apartI n es a b)) ∧ Below u.heap.size u w') := fun u h => apartPaths_any n a b A1 c es u h hle'
    have HS : Hid (∀ u, EdgesIn u u.heap.size A1 es → Calls Try.prog 32 #[.agg #[.int .i64 n, .slice A1 es.length c], .int .i64 a, .int .i64 b] u fun e w' => e = .returned (.int .i64 (apartI n es a b)) ∧ Below u.heap.size u w') := fun u h => specApartPaths_any n a b A1 c es u h hle'
    by_cases hok : joinOkB n es a b = true
    · have t1 := apartI_low hok
      have t2 : 0 ≤ minAll (pathsN n es a b) → apartI n es a b * minAll (pathsN n es a b) ≤ es.length := apart_times_law hok
      have t3 := apart_zero hok
      have t4 := minAll_pop (xs := pathsN n es a b)
      have h9 := joinOk_nine hok
      have hj : joinedB n es ((2 ^ es.length - 1 : Nat) : Int) a b = joinS es a.toNat b.toNat (2 ^ es.length - 1) := joined_state hok (all_lt _)
      have HX : Hid (∀ u, EdgesIn u u.heap.size A1 es → Calls Try.prog 29 #[.agg #[.int .i64 n, .slice A1 es.length c], .int .i64 b, .int .i64 a] u fun e w' => e = .returned (.int .i64 (apartI n es a b)) ∧ Below u.heap.size u w') := fun u h => by rw [← apartI_swap]; exact apartPaths_any n b a A1 c es u h hle'
      have HH : Hid (∀ u, EdgesIn u u.heap.size A1 es → Calls Try.prog 22 #[.agg #[.int .i64 n, .slice A1 es.length c], .int .i64 a, .int .i64 b] u fun e w' => e = .returned (.int .i64 (minAll (pathsN n es a b))) ∧ Below u.heap.size u w') := fun u h => shortestOf_any n a b A1 c es u h hle'
      have HJ : Hid (∀ u, EdgesIn u u.heap.size A1 es → Calls Try.prog 33 #[.agg #[.int .i64 n, .slice A1 es.length c], .int .i64 ((2 ^ es.length - 1 : Nat) : Int), .int .i64 a, .int .i64 b] u fun e w' => e = .returned (.bool (joinS es a.toNat b.toNat (2 ^ es.length - 1))) ∧ Below u.heap.size u w') := fun u h => by rw [← hj]; exact joinedOk_any _ _ _ _ _ _ _ _ h hle'
      obtain ⟨P, hP, p1, p2, hp1, hp2⟩ := pow_parts h9
      rw [hP] at HJ t3
      clear hP hj hok
      generalize apartI n es a b = m at *
      generalize minAll (pathsN n es a b) = v at *
      generalize joinS es a.toNat b.toNat (P - 1) = J at *
      have hm0 : ¬ m < 0 := by omega
      have HD : Hid ((m == 0) = !J) := by
        rw [Hid, Bool.eq_iff_iff]
        simp [t3]
      clear t3
      have hw : IntKind.i64.wrap (m * v) = m * v ∨ v < 0 := by
        by_cases hv : v < 0
        · exact .inr hv
        · refine .inl (IntWalk.i64_in _ ?_)
          have h1 := t2 (by omega)
          have h2 : 0 ≤ m * v := Int.mul_nonneg (by omega) (by omega)
          omega
      by_cases hv : v < 0
      · clear t2 hw
        have c0 := L1.c0
        have c1 := L1.c1
        go_wp2_with fail
        refine (HI.out _ L1.edges).mono ?_
        rintro e2 w2 ⟨rfl, hb2⟩
        have L2 := L1.step hb2 L1.lt
        clear hb2 L1 c0 c1
        have c0 := L2.c0
        have c1 := L2.c1
        go_wp2_with fail
        refine (HS.out _ L2.edges).mono ?_
        rintro e3 w3 ⟨rfl, hb3⟩
        have L3 := L2.step hb3 L2.lt
        clear hb3 L2 c0 c1
        have c0 := L3.c0
        have c1 := L3.c1
        clear c0 c1
        have c0 := L3.c0
        have c1 := L3.c1
        go_wp2_with fail
        refine (HH.out _ L3.edges).mono ?_
        rintro e4 w4 ⟨rfl, hb4⟩
        have L4 := L3.step hb4 L3.lt
        clear hb4 L3 c0 c1
        have c0 := L4.c0
        have c1 := L4.c1
        go_wp2_with fail
        refine (HX.out _ L4.edges).mono ?_
        rintro e5 w5 ⟨rfl, hb5⟩
        have L5 := L4.step hb5 L4.lt
        clear hb5 L4 c0 c1
        have c0 := L5.c0
        have c1 := L5.c1
        go_wp2_with fail
        refine (HJ.out _ L5.edges).mono ?_
        rintro e6 w6 ⟨rfl, hb6⟩
        have L6 := L5.step hb6 L5.lt
        clear hb6 L5 c0 c1
        go_wp2_with fail
        go_returns
        exact ⟨retB (by rw [HD.out]; simp), HB.out.trans (L6.below.mono s1)⟩
      · have hle2 := t2 (by omega)
        have hge2 : 0 ≤ m * v := Int.mul_nonneg (by omega) (by omega)
        obtain ⟨mv, hmv⟩ : ∃ mv, m * v = mv := ⟨_, rfl⟩
        rw [hmv] at hle2 hge2
        have hw1 : wrap64 (m * v) = mv := by rw [hmv]; unfold wrap64; omega
        have hw2 : IntKind.i64.wrap (m * v) = mv := by rw [hmv]; exact IntWalk.i64_in _ (by omega)
        have hle3 : ¬ (es.length : Int) < mv := by omega
        clear t2 hw hmv
        have c0 := L1.c0
        have c1 := L1.c1
        go_wp2_with fail
        refine (HI.out _ L1.edges).mono ?_
        rintro e2 w2 ⟨rfl, hb2⟩
        have L2 := L1.step hb2 L1.lt
        clear hb2 L1 c0 c1
        have c0 := L2.c0
        have c1 := L2.c1
        go_wp2_with fail
        refine (HS.out _ L2.edges).mono ?_
        rintro e3 w3 ⟨rfl, hb3⟩
        have L3 := L2.step hb3 L2.lt
        clear hb3 L2 c0 c1
        have c0 := L3.c0
        have c1 := L3.c1
        clear c0 c1
        have c0 := L3.c0
        have c1 := L3.c1
        go_wp2_with fail
        refine (HH.out _ L3.edges).mono ?_
        rintro e4 w4 ⟨rfl, hb4⟩
        have L4 := L3.step hb4 L3.lt
        clear hb4 L3 c0 c1
        have c0 := L4.c0
        have c1 := L4.c1
        go_wp2_with fail
        refine (HX.out _ L4.edges).mono ?_
        rintro e5 w5 ⟨rfl, hb5⟩
        have L5 := L4.step hb5 L4.lt
        clear hb5 L4 c0 c1
        have c0 := L5.c0
        have c1 := L5.c1
        go_wp2_with fail
        refine (HJ.out _ L5.edges).mono ?_
        rintro e6 w6 ⟨rfl, hb6⟩
        have L6 := L5.step hb6 L5.lt
        clear hb6 L5 c0 c1
        go_wp2_with fail
        go_returns
        exact ⟨retB (by rw [HD.out]; simp), HB.out.trans (L6.below.mono s1)⟩
    · rw [apart_not hok] at HI HS
      clear hok
      have c0 := L1.c0
      have c1 := L1.c1
      go_wp2_with fail
      refine (HI.out _ L1.edges).mono ?_
      rintro e2 w2 ⟨rfl, hb2⟩
      have L2 := L1.step hb2 L1.lt
      clear hb2 L1 c0 c1
      have c0 := L2.c0
      have c1 := L2.c1
      go_wp2_with fail
      refine (HS.out _ L2.edges).mono ?_
      rintro e3 w3 ⟨rfl, hb3⟩
      have L3 := L2.step hb3 L2.lt
      clear hb3 L2 c0 c1
      have c0 := L3.c0
      have c1 := L3.c1
      go_wp2_with fail
      refine (alive_any _).mono ?_
      rintro e4 w4 ⟨rfl, hb4⟩
      have L4 := L3.step hb4 L3.lt
      go_wp2_with fail
      go_returns
      exact ⟨rfl, HB.out.trans (L4.below.mono s1)⟩

namespace fnApartPaths
open Go.ChangeShapes Go.WideShapes Go.ChangeAt Go.RowKit Go.Deep Go.Joins
set_option linter.unusedVariables false
set_option maxRecDepth 100000 in
theorem lifted (os : Os) (started : os.Started) (H : Type) (enc : TypeId × Value → H) :
    ReturnsInHanded {} Try.checked os 8 .any (Rows.fnApartPathsSpec.pre6 enc Try.prog Try.f8 Rows.fnApartPathsRow.domain false) (Rows.fnApartPathsSpec.post enc Try.prog Try.f8 false true false false) := by
  refine returnsInHanded_of_change (C := Try.checked) own started (by kernel_rfl) Try.func8
    (ChangeSpec.witness6 (enc := enc) (C := Try.checked) false ⟨#[], #[.slice none 0 0], []⟩ 8 (by kernel_rfl) (by kernel_rfl) (by kernel_rfl) (by kernel_rfl)) ?_
  intro W base args ds gs before hval0 hW hcnd _
  have hval : ∀ (j : Nat) t v, Try.f8.params[j]? = some t → args[j]? = some v → Value.okWide Try.prog W .any base t v := hval0
  have hW' := hW
  obtain ⟨p, q, hA0, hV, rfl, hfz, hnd⟩ := hW
  have hA : DataW.TrodAll enc Try.prog W 0 (fun _ => true) true Try.f8.params.toList args.toList ds p := hA0
  rw [Try.params8] at hA hval
  obtain ⟨v0, vs0, d0, ds0, p0, q0, hargs, rfl, rfl, h0, r0⟩ := trodAll_cons hA
  obtain ⟨rfl, rfl, rfl⟩ := trodAll_nil r0
  obtain rfl : args = #[v0] := by cases args; simp_all
  obtain ⟨rfl, rfl⟩ := trodVars_none hV
  have k0 := h0
  have lt0 : ∀ x ∈ p0, x.block < W.heap.size := by obtain ⟨m, hm⟩ := k0; exact DataW.trod_lt m _ _ _ hm
  obtain ⟨A0, c0, bs0, rfl, hb0, hl0⟩ := open_bytes (hval 0 37 v0 rfl rfl) h0
  clear hA0 hval0
  refine (apartPaths_law A0 c0 bs0 W hb0 hl0).mono fun e W' ⟨he, bel⟩ => ?_
  subst he
  exact ⟨_, rfl, _, _, _, [], _, [], hW', trodAll_mk1 (shut_bool Try.underlying4 _), (trodAll_cons_mk (Below.trod laidOut (by kernel_rfl) (of_decide_eq_true (by kernel_rfl)) k0 bel lt0) trodAll_mk0), rfl, bel.frame _, fun h => by cases h⟩

theorem holds : Rows.FnApartPathsSaid :=
  OpenClaim.holds_of_wide 8 Try.f8 rfl rfl rfl rfl rfl rfl rfl ⟨rfl, rfl, rfl, rfl, rfl⟩ rfl rfl rfl rfl rfl (by kernel_rfl) Try.func8 (by kernel_rfl)
    (of_decide_eq_true (by kernel_rfl)) (by unfold Func.isWrapper; first | (rw [if_pos (by decide +kernel)]; kernel_rfl) | (rw [if_neg (by decide +kernel)]; exact ⟨rfl, rfl⟩))
    (fun os started H enc _ => lifted os started H enc)
end fnApartPaths

end Go.Proofs.Ytlcgbmeneajfoac
