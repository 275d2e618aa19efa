/- The law FnActiveOf holds of every code: the program answers as the reference does; the first edges are no more than the rank, and with the first ones that are not there no more than all edges and, with edges, one at least; and there are as many least states as the value at 1 and 1. -/
import Derived.Test.YtdacfeebidhgnaaBytes
import Derived.Test.YtdacfeebidhgnaaVals
import Derived.Test.YtdacfeebidhgnaaDrawAct
import Derived.Test.YtdacfeebidhgnaaImpl11d
namespace Go.Proofs.Ytdacfeebidhgnaa
open Go.RowKit
set_option maxRecDepth 100000

theorem first_always (es : List (Nat × Nat)) (R : Nat → Nat) (T : Nat → Bool) (h : 0 < es.length) : 1 ≤ inC es R T + outC es R T := by
  have h0 : firstB es R T 0 = true := firstB_iff.2 fun k hk => absurd hk (Nat.not_lt_zero k)
  unfold inC outC
  obtain ⟨m, hm⟩ : ∃ m, es.length = m + 1 := ⟨es.length - 1, by omega⟩
  rw [hm, card_shift, card_shift, h0]
  cases T 0 <;> simp <;> omega
theorem sumLs_one (es : List (Int × Int)) (l : List Nat) : sumLs (baseT es 1 1) l = (l.length : Nat) := by
  unfold sumLs
  have : ∀ m, sumS (fun k => baseT es 1 1 (l.getD k 0)) m = (m : Nat) := by
    intro m
    induction m with
    | zero => rfl
    | succ m ih =>
      show sumS _ m + _ = _
      rw [ih]; show (m : Int) + 1 ^ _ * 1 ^ _ = _; rw [powI_one, powI_one]; simp
  exact this _
theorem val_ones {n : Int} {es : List (Int × Int)} (hn : netOkB n es = true) : valI n es 1 1 = ((basesN n es).length : Nat) ∧ roadOkB n es 1 1 = true := by
  have hok : roadOkB n es 1 1 = true := by unfold roadOkB; rw [hn, inFour_iff.2 (show (-4 : Int) ≤ 1 ∧ (1 : Int) ≤ 4 by omega)]; rfl
  refine ⟨?_, hok⟩
  unfold valI
  rw [if_pos hok, ← bases_val hn 1 1, sumLs_one]
theorem active_facts {n s : Int} {es : List (Int × Int)} (h : leastV n es s = true) : netOkB n es = true ∧ ∃ a b r : Nat, actIn n es s = a ∧ actOut n es s = b ∧ rankI n es s = r ∧ a ≤ r ∧ a + b ≤ es.length ∧ (es.length = 0 ∨ 1 ≤ a + b) := by
  have hl := h
  unfold leastV at h
  rw [Bool.and_eq_true] at h
  have hn := stateOkB_net h.1
  have hs := stateOkB_iff.1 h.1
  obtain ⟨t, rfl⟩ : ∃ t : Nat, s = t := ⟨s.toNat, by omega⟩
  have hr := leastS_iff.1 h.2
  refine ⟨hn, actI es t, actO es t, rkS es (t : Nat), ?_, ?_, rankI_nat h.1, ?_, ?_, ?_⟩
  · unfold actIn; rw [if_pos hl]; rfl
  · unfold actOut; rw [if_pos hl]; rfl
  · have := inC_le (endsL es) (fun x => x) (bits (t : Nat))
    rw [endsL_length] at this
    unfold actI
    omega
  · have := act_sum (endsL es) (fun x => x) (bits (t : Nat))
    rw [endsL_length] at this
    exact this
  · rcases Nat.eq_zero_or_pos es.length with h0 | h0
    · exact .inl h0
    · exact .inr (first_always (endsL es) (fun x => x) (bits (t : Nat)) (by rw [endsL_length]; exact h0))

set_option maxHeartbeats 8000000 in
theorem activeOf_law (A : Option Addr) (cap l : Nat) (w : World) (hb : BytesIn w w.heap.size A l) (hc : l ≤ cap) :
    Calls Try.prog 14 #[.slice A l cap] w fun e w' => e = .returned (.bool true) ∧ Below w.heap.size w w' := by
  by_cases hbig : 1048576 < l
  · go_enter Try.func14, Try.ntmps14
    go_wp2
    go_returns
    exact ⟨rfl, Below.refl _ _⟩
  · have hl : l ≤ 1048576 := by omega
    clear hbig
    go_enter Try.func14, Try.ntmps14
    go_wp2_with fail
    refine (drawActiveOf_any _ _ _ _ hb hl hc).mono ?_
    rintro e1 w1 ⟨n, A1, c, es, s, rfl, own, n1, n7, hle, m0, m1, hb1⟩
    have L1 := ArgNet.start (cap := c) (n := n) 29 own.edges
    have HB := Lib.hid hb1
    have hle' : es.length ≤ 1048576 := by omega
    have s1 := Lib.hid hb1.size
    clear own hb hb1
    have HI : Hid (∀ u, EdgesIn u u.heap.size A1 es → Calls Try.prog 27 #[.agg #[.int .i64 n, .slice A1 es.length c], .int .i64 s] u fun e w' => e = .returned (.tuple #[.int .i64 (actIn n es s), .int .i64 (actOut n es s), .bool (leastV n es s)]) ∧ Below u.heap.size u w') := fun u h => activeOf_any n s A1 c es u h hle'
    have HS : Hid (∀ u, EdgesIn u u.heap.size A1 es → Calls Try.prog 26 #[.agg #[.int .i64 n, .slice A1 es.length c], .int .i64 s] u fun e w' => e = .returned (.tuple #[.int .i64 (actIn n es s), .int .i64 (actOut n es s), .bool (leastV n es s)]) ∧ Below u.heap.size u w') := fun u h => specActiveOf_any n s A1 c es u h hle'
    have c0 := L1.c0
    have c1 := L1.c1
    cases hok : leastV n es s with
    | false =>
      have hv1 : actIn n es s = -1 := if_neg (by rw [hok]; simp)
      have hv2 : actOut n es s = -1 := if_neg (by rw [hok]; simp)
      rw [hok, hv1, hv2] at HI HS
      clear hok hv1 hv2
      go_wp2_with fail
      refine (HI.out _ L1.edges).mono ?_
      rintro e2 w2 ⟨rfl, hb2⟩
      have L2 := L1.step hb2 L1.lt
      clear hb2 L1 c0 c1
      have c0 := L2.c0
      have c1 := L2.c1
      go_wp2_with fail
      refine (HS.out _ L2.edges).mono ?_
      rintro e3 w3 ⟨rfl, hb3⟩
      have L3 := L2.step hb3 L2.lt
      clear hb3 L2 c0 c1
      have c0 := L3.c0
      have c1 := L3.c1
      go_wp2_with fail
      refine (alive_any _).mono ?_
      rintro e4 w4 ⟨rfl, hb4⟩
      have L4 := L3.step hb4 L3.lt
      go_wp2_with fail
      go_returns
      exact ⟨by first | rfl | simp, HB.out.trans (L4.below.mono s1.out)⟩
    | true =>
      obtain ⟨hn, a, b, r, ha, hbb, hr, h1, h2, h3⟩ := active_facts hok
      have HE : Hid (∀ u, EdgesIn u u.heap.size A1 es → Calls Try.prog 31 #[.agg #[.int .i64 n, .slice A1 es.length c], .int .i64 1, .int .i64 1] u fun e w' => e = .returned (.tuple #[.int .i64 (((basesN n es).length : Nat) : Int), .bool true]) ∧ Below u.heap.size u w') := fun u h => by
        have := byBases_any n 1 1 A1 c es u h hle'
        rw [(val_ones hn).1, (val_ones hn).2] at this
        exact this
      have HR : Hid (∀ u, EdgesIn u u.heap.size A1 es → Calls Try.prog 54 #[.agg #[.int .i64 n, .slice A1 es.length c], .int .i64 s] u fun e w' => e = .returned (.int .i64 (r : Nat)) ∧ Below u.heap.size u w') := fun u h => by
        have := rankOf_any n s A1 c es u h hle'
        rw [hr] at this
        exact this
      have HL : Hid (∀ u, EdgesIn u u.heap.size A1 es → Calls Try.prog 21 #[.agg #[.int .i64 n, .slice A1 es.length c]] u fun e w' => ∃ B d, e = .returned (.slice B (basesN n es).length d) ∧ Below u.heap.size u w') := fun u h => (basesOf_any n A1 c es u h hle').mono fun _ _ ⟨B, d, he, _, hb⟩ => ⟨B, d, by rw [he, natI_length], hb⟩
      rw [hok, ha, hbb] at HI HS
      clear hok ha hbb hr hn
      generalize (basesN n es).length = M at *
      have i1 : (a : Int) ≤ (r : Int) := by omega
      have i2 : (a : Int) + (b : Int) ≤ es.length := by omega
      have wab : IntKind.i64.wrap ((a : Int) + (b : Int)) = (a : Int) + (b : Int) := IntWalk.i64_in _ (by omega)
      rcases h3 with h3 | h3
      · have e0 : (es.length : Int) = 0 := by omega
        have e1 : ((es.length : Int) == 0) = true := beq_iff_eq.2 e0
        have i4 : (a : Int) + (b : Int) ≤ 0 := by omega
        clear h1 h2 h3 n1 n7 hle
        go_wp2_with fail
        refine (HI.out _ L1.edges).mono ?_
        rintro e2 w2 ⟨rfl, hb2⟩
        have L2 := L1.step hb2 L1.lt
        clear hb2 L1 c0 c1
        have c0 := L2.c0
        have c1 := L2.c1
        go_wp2_with fail
        refine (HS.out _ L2.edges).mono ?_
        rintro e3 w3 ⟨rfl, hb3⟩
        have L3 := L2.step hb3 L2.lt
        clear hb3 L2 c0 c1
        have c0 := L3.c0
        have c1 := L3.c1
        go_wp2_with fail
        refine (HE.out _ L3.edges).mono ?_
        rintro e4 w4 ⟨rfl, hb4⟩
        have L4 := L3.step hb4 L3.lt
        clear hb4 L3 c0 c1
        have c0 := L4.c0
        have c1 := L4.c1
        go_wp2_with fail
        refine (HR.out _ L4.edges).mono ?_
        rintro e5 w5 ⟨rfl, hb5⟩
        have L5 := L4.step hb5 L4.lt
        clear hb5 L4 c0 c1
        have c0 := L5.c0
        have c1 := L5.c1
        go_wp2_with fail
        refine (HL.out _ L5.edges).mono ?_
        rintro e6 w6 ⟨B9, d9, rfl, hb6⟩
        have L6 := L5.step hb6 L5.lt
        go_wp2_with fail
        go_returns
        exact ⟨by first | rfl | (simp; done) | (simp; omega), HB.out.trans (L6.below.mono s1.out)⟩
      · have i3 : (1 : Int) ≤ (a : Int) + (b : Int) := by omega
        by_cases h0 : es.length = 0
        · have e0 : (es.length : Int) = 0 := by omega
          omega
        · have e0 : ¬ (es.length : Int) = 0 := by omega
          have e1 : ((es.length : Int) == 0) = false := beq_eq_false_iff_ne.2 e0
          clear h1 h2 h3 n1 n7 hle h0
          go_wp2_with fail
          refine (HI.out _ L1.edges).mono ?_
          rintro e2 w2 ⟨rfl, hb2⟩
          have L2 := L1.step hb2 L1.lt
          clear hb2 L1 c0 c1
          have c0 := L2.c0
          have c1 := L2.c1
          go_wp2_with fail
          refine (HS.out _ L2.edges).mono ?_
          rintro e3 w3 ⟨rfl, hb3⟩
          have L3 := L2.step hb3 L2.lt
          clear hb3 L2 c0 c1
          have c0 := L3.c0
          have c1 := L3.c1
          go_wp2_with fail
          refine (HE.out _ L3.edges).mono ?_
          rintro e4 w4 ⟨rfl, hb4⟩
          have L4 := L3.step hb4 L3.lt
          clear hb4 L3 c0 c1
          have c0 := L4.c0
          have c1 := L4.c1
          go_wp2_with fail
          refine (HR.out _ L4.edges).mono ?_
          rintro e5 w5 ⟨rfl, hb5⟩
          have L5 := L4.step hb5 L4.lt
          clear hb5 L4 c0 c1
          have c0 := L5.c0
          have c1 := L5.c1
          go_wp2_with fail
          refine (HL.out _ L5.edges).mono ?_
          rintro e6 w6 ⟨B9, d9, rfl, hb6⟩
          have L6 := L5.step hb6 L5.lt
          go_wp2_with fail
          go_returns
          exact ⟨by first | rfl | (simp; done) | (simp; omega), HB.out.trans (L6.below.mono s1.out)⟩

namespace fnActiveOf
open Go.ChangeShapes Go.WideShapes Go.ChangeAt Go.RowKit Go.Deep Go.Joins
set_option linter.unusedVariables false
set_option maxRecDepth 100000 in
theorem lifted (os : Os) (started : os.Started) (H : Type) (enc : TypeId × Value → H) :
    ReturnsInHanded {} Try.checked os 14 .any (Rows.fnActiveOfSpec.pre6 enc Try.prog Try.f14 Rows.fnActiveOfRow.domain false) (Rows.fnActiveOfSpec.post enc Try.prog Try.f14 false true false false) := by
  refine returnsInHanded_of_change (C := Try.checked) own started (by kernel_rfl) Try.func14
    (ChangeSpec.witness6 (enc := enc) (C := Try.checked) false ⟨#[], #[.slice none 0 0], []⟩ 8 (by kernel_rfl) (by kernel_rfl) (by kernel_rfl) (by kernel_rfl)) ?_
  intro W base args ds gs before hval0 hW hcnd _
  have hval : ∀ (j : Nat) t v, Try.f14.params[j]? = some t → args[j]? = some v → Value.okWide Try.prog W .any base t v := hval0
  have hW' := hW
  obtain ⟨p, q, hA0, hV, rfl, hfz, hnd⟩ := hW
  have hA : DataW.TrodAll enc Try.prog W 0 (fun _ => true) true Try.f14.params.toList args.toList ds p := hA0
  rw [Try.params14] at hA hval
  obtain ⟨v0, vs0, d0, ds0, p0, q0, hargs, rfl, rfl, h0, r0⟩ := trodAll_cons hA
  obtain ⟨rfl, rfl, rfl⟩ := trodAll_nil r0
  obtain rfl : args = #[v0] := by cases args; simp_all
  obtain ⟨rfl, rfl⟩ := trodVars_none hV
  have k0 := h0
  have lt0 : ∀ x ∈ p0, x.block < W.heap.size := by obtain ⟨m, hm⟩ := k0; exact DataW.trod_lt m _ _ _ hm
  obtain ⟨A0, c0, bs0, rfl, hb0, hl0⟩ := open_bytes (hval 0 44 v0 rfl rfl) h0
  clear hA0 hval0
  refine (activeOf_law A0 c0 bs0 W hb0 hl0).mono fun e W' ⟨he, bel⟩ => ?_
  subst he
  exact ⟨_, rfl, _, _, _, [], _, [], hW', trodAll_mk1 (shut_bool Try.underlying4 _), (trodAll_cons_mk (Below.trod laidOut (by kernel_rfl) (of_decide_eq_true (by kernel_rfl)) k0 bel lt0) trodAll_mk0), rfl, bel.frame _, fun h => by cases h⟩

theorem holds : Rows.FnActiveOfSaid :=
  OpenClaim.holds_of_wide 14 Try.f14 rfl rfl rfl rfl rfl rfl rfl ⟨rfl, rfl, rfl, rfl, rfl⟩ rfl rfl rfl rfl rfl (by kernel_rfl) Try.func14 (by kernel_rfl)
    (of_decide_eq_true (by kernel_rfl)) (by unfold Func.isWrapper; first | (rw [if_pos (by decide +kernel)]; kernel_rfl) | (rw [if_neg (by decide +kernel)]; exact ⟨rfl, rfl⟩))
    (fun os started H enc _ => lifted os started H enc)
end fnActiveOf
end Go.Proofs.Ytdacfeebidhgnaa
