/- The law FnFlowsValue holds of every code: the value at 0 and 1 less the number is, with a sign, how many flows there are. -/
import Derived.Test.YtdacfeebidhgnabBytes
import Derived.Test.YtdacfeebidhgnabVals
import Derived.Test.YtdacfeebidhgnabDraw10
import Derived.Test.YtdacfeebidhgnabImpl10g
import Derived.Test.YtdacfeebidhgnabImpl11f
namespace Go.Proofs.Ytdacfeebidhgnab
open Go.RowKit
set_option maxRecDepth 100000

theorem flowsValue_eq {n : Int} {es : List (Int × Int)} {x : Int} (h : flowOkB n es x = true) : flowsI n es x = sgn (es.length - rkN es) (valI n es 0 (1 - x)) ∧ rkN es ≤ es.length ∧ roadOkB n es 0 (1 - x) = true := by
  have h2 : netOkB n es = true ∧ es.length ≤ 6 ∧ 1 ≤ x ∧ x ≤ 4 := by simpa [flowOkB] using h
  have hr : rkN es ≤ es.length := by unfold rkN; rw [← endsL_length es]; exact rkA_len _ _
  have hok : roadOkB n es 0 (1 - x) = true := by
    unfold roadOkB
    rw [h2.1, inFour_iff.2 (show (-4 : Int) ≤ 0 ∧ (0 : Int) ≤ 4 by omega), inFour_iff.2 (show -4 ≤ 1 - x ∧ 1 - x ≤ 4 by omega)]; rfl
  refine ⟨?_, hr, hok⟩
  have hv : valI n es 0 (1 - x) = valR 0 (1 - x) (endsL es) fun x => x := by unfold valI; rw [if_pos hok]
  have hf := val_flow (x := x) (M := (endsL es).length) (es := endsL es) (R := fun x => x) (by rw [endsL_length]; exact hr)
  rw [endsL_length] at hf
  have ht := flowN_tut (m := x.toNat) (n := n.toNat) (by omega) (endsL_ok h2.1)
  rw [endsL_length, show ((x.toNat : Nat) : Int) = x by omega, hf] at ht
  rw [flowsI_ok h, ht, hv]; rfl
theorem valI_bound {n : Int} {es : List (Int × Int)} {x y : Int} (h : roadOkB n es x y = true) : -262144 ≤ valI n es x y ∧ valI n es x y ≤ 262144 := by
  have h2 : netOkB n es = true ∧ inFour x = true ∧ inFour y = true := by simpa [roadOkB] using h
  unfold valI
  rw [if_pos h, ← edge_val]
  exact edgeV_small (inFour_iff.1 h2.2.1) (inFour_iff.1 h2.2.2) (by rw [endsL_length]; exact (netOkB_iff.1 h2.1).2.1) _

set_option maxHeartbeats 8000000 in
theorem flowsValue_law (A : Option Addr) (cap l : Nat) (w : World) (hb : BytesIn w w.heap.size A l) (hc : l ≤ cap) :
    Calls Try.prog 8 #[.slice A l cap] w fun e w' => e = .returned (.bool true) ∧ Below w.heap.size w w' := by
  by_cases hbig : 1048576 < l
  · go_enter Try.func8, Try.ntmps8
    go_wp2
    go_returns
    exact ⟨rfl, Below.refl _ _⟩
  · have hl : l ≤ 1048576 := by omega
    clear hbig
    go_enter Try.func8, Try.ntmps8
    go_wp2_with fail
    refine (drawCountFlows_any _ _ _ _ hb hl hc).mono ?_
    rintro e1 w1 ⟨n, A1, c, es, x, rfl, ed, n1, n7, hle, hcap, m0, m1, hb1⟩
    have L1 := ArgNet.start (cap := c) (n := n) 25 (ed.edges (Nat.le_refl _))
    have HB := Lib.hid hb1
    have hle' : es.length ≤ 1048576 := by omega
    have s1 := Lib.hid hb1.size
    clear ed hb hb1
    have HN : Hid (∀ u, EdgesIn u u.heap.size A1 es → Calls Try.prog 34 #[.agg #[.int .i64 n, .slice A1 es.length c]] u fun e w' => e = .returned (.bool (netOkB n es)) ∧ Below u.heap.size u w') := fun u h => specNetOk_any n A1 c es u h hle'
    have c0 := L1.c0
    have c1 := L1.c1
    by_cases hok : flowOkB n es x = true
    · have h2 : netOkB n es = true ∧ es.length ≤ 6 ∧ 1 ≤ x ∧ x ≤ 4 := by simpa [flowOkB] using hok
      obtain ⟨hn, h6, hx1, hx4⟩ := h2
      obtain ⟨hfv, hrk, hro⟩ := flowsValue_eq hok
      obtain ⟨v1, v2⟩ := valI_bound hro
      have HE : Hid (∀ u, EdgesIn u u.heap.size A1 es → Calls Try.prog 20 #[.agg #[.int .i64 n, .slice A1 es.length c], .int .i64 0, .int .i64 (1 - x)] u fun e w' => e = .returned (.tuple #[.int .i64 (valI n es 0 (1 - x)), .bool (roadOkB n es 0 (1 - x))]) ∧ Below u.heap.size u w') := fun u h => byEdges_any n 0 (1 - x) A1 c es u h hle' hcap
      have HF : Hid (∀ u, EdgesIn u u.heap.size A1 es → Calls Try.prog 38 #[.agg #[.int .i64 n, .slice A1 es.length c], .int .i64 x] u fun e w' => e = .returned (.int .i64 (flowsI n es x)) ∧ Below u.heap.size u w') := fun u h => countFlows_any n x A1 c es u h hle'
      obtain ⟨P, hP, p1, p2, hp3, hp4⟩ := pow_named (show es.length ≤ 9 by omega)
      have HP3 := Lib.hid hp3
      have HP4 := Lib.hid hp4
      clear hp3 hp4
      obtain ⟨Q, hQ⟩ : ∃ Q, P - 1 = Q := ⟨_, rfl⟩
      have wq : IntKind.i64.wrap ((P : Int) - 1) = (Q : Int) := by clear hP HP3 HP4; rw [IntWalk.i64_in _ (by omega)]; omega
      have HR : Hid (∀ u, ArgNet w1 u n A1 c es → Calls Try.prog 35 #[.agg #[.int .i64 n, .slice A1 es.length c], .int .i64 (Q : Nat)] u fun e w' => e = .returned (.int .i64 (rkN es : Nat)) ∧ Below u.heap.size u w') := fun u h => by
        have := rankOf_any n ((2 ^ es.length - 1 : Nat) : Int) A1 c es u h.edges hle'
        rw [rankI_top hn, hP, hQ] at this
        exact this
      clear hP hQ p1 p2
      rw [hn] at HN
      rw [hro] at HE
      rw [hfv] at HF
      generalize rkN es = r at *
      have wd : IntKind.i64.wrap ((es.length : Int) - (r : Nat)) = ((es.length - r : Nat) : Int) := by rw [IntWalk.i64_in _ (by omega)]; omega
      have htm := mod_nat2 (es.length - r)
      have hl6 : ¬ (6 : Int) < es.length := by omega
      have hx1' : ¬ x < 1 := by omega
      have hx4' : ¬ 4 < x := by omega
      have wx : IntKind.i64.wrap (1 - x) = 1 - x := IntWalk.i64_in _ (by omega)
      generalize es.length - r = d at *
      generalize valI n es 0 (1 - x) = V at *
      clear hn hro hok hfv
      by_cases hodd : d % 2 = 1
      · rw [sgn_odd hodd] at HF
        rw [hodd] at htm
        obtain ⟨wn1, wn2⟩ : IntKind.i64.wrap (-V) = -V ∧ wrap64 (-V) = -V := ⟨IntWalk.i64_in _ (by omega), by unfold wrap64; omega⟩
        clear hodd v1 v2
        go_wp2_with fail
        refine (HN.out _ L1.edges).mono ?_
        rintro e2 w2 ⟨rfl, hb2⟩
        have L2 := L1.step hb2 L1.lt
        clear hb2 L1 c0 c1
        have c0 := L2.c0
        have c1 := L2.c1
        go_wp2_with fail
        refine (HE.out _ L2.edges).mono ?_
        rintro e3 w3 ⟨rfl, hb3⟩
        have L3 := L2.step hb3 L2.lt
        clear hb3 L2 c0 c1
        have c0 := L3.c0
        have c1 := L3.c1
        go_wp2_with fail
        refine wp_region_class (fun u => ArgNet w1 u n A1 c es) (by kernel_rfl) (by kernel_rfl) L3.drew ?_
        clear L3 c0 c1
        intro X hX f hf hex
        have k0 : ∀ x, (f x).cell? ⟨w1.heap.size, 0, none⟩ = some (.int .i64 n) := fun x => (hf x).c0
        have k1 : ∀ x, (f x).cell? ⟨w1.heap.size, 1, none⟩ = some (.slice A1 es.length c) := fun x => (hf x).c1
        have hp3 := HP3.out
        have hp4 := HP4.out
        clear HP3 HP4 hle hle' n1 n7 m0 m1 hcap h6 hx1 hx4 hrk
        repeat (go_big_quiet_step (first | (go_at_call 35; with_reducible exact class_of hex (HR.out _ (hf _)) (hf _).on)))
        refine wpQuiet_nil ?_
        rintro _ ⟨x9, rfl⟩
        have L9 := hf x9
        have c0 := L9.c0
        have c1 := L9.c1
        go_wp2_with fail
        refine (HF.out _ L9.edges).mono ?_
        rintro e10 w10 ⟨rfl, hb10⟩
        have L10 := L9.step hb10 L9.lt
        clear hb10 L9 c0 c1
        have c0 := L10.c0
        have c1 := L10.c1
        go_wp2_with fail
        go_returns
        exact ⟨by first | rfl | simp, HB.out.trans (L10.below.mono s1.out)⟩
      · rw [sgn_even hodd] at HF
        rw [show d % 2 = 0 by omega] at htm
        clear hodd v1 v2
        go_wp2_with fail
        refine (HN.out _ L1.edges).mono ?_
        rintro e2 w2 ⟨rfl, hb2⟩
        have L2 := L1.step hb2 L1.lt
        clear hb2 L1 c0 c1
        have c0 := L2.c0
        have c1 := L2.c1
        go_wp2_with fail
        refine (HE.out _ L2.edges).mono ?_
        rintro e3 w3 ⟨rfl, hb3⟩
        have L3 := L2.step hb3 L2.lt
        clear hb3 L2 c0 c1
        have c0 := L3.c0
        have c1 := L3.c1
        go_wp2_with fail
        refine wp_region_class (fun u => ArgNet w1 u n A1 c es) (by kernel_rfl) (by kernel_rfl) L3.drew ?_
        clear L3 c0 c1
        intro X hX f hf hex
        have k0 : ∀ x, (f x).cell? ⟨w1.heap.size, 0, none⟩ = some (.int .i64 n) := fun x => (hf x).c0
        have k1 : ∀ x, (f x).cell? ⟨w1.heap.size, 1, none⟩ = some (.slice A1 es.length c) := fun x => (hf x).c1
        have hp3 := HP3.out
        have hp4 := HP4.out
        clear HP3 HP4 hle hle' n1 n7 m0 m1 hcap h6 hx1 hx4 hrk
        repeat (go_big_quiet_step (first | (go_at_call 35; with_reducible exact class_of hex (HR.out _ (hf _)) (hf _).on)))
        refine wpQuiet_nil ?_
        rintro _ ⟨x9, rfl⟩
        have L9 := hf x9
        have c0 := L9.c0
        have c1 := L9.c1
        go_wp2_with fail
        refine (HF.out _ L9.edges).mono ?_
        rintro e10 w10 ⟨rfl, hb10⟩
        have L10 := L9.step hb10 L9.lt
        clear hb10 L9 c0 c1
        have c0 := L10.c0
        have c1 := L10.c1
        go_wp2_with fail
        go_returns
        exact ⟨by first | rfl | simp, HB.out.trans (L10.below.mono s1.out)⟩
    · cases hn : netOkB n es with
      | false =>
        rw [hn] at HN
        clear hok hn
        go_wp2_with fail
        refine (HN.out _ L1.edges).mono ?_
        rintro e2 w2 ⟨rfl, hb2⟩
        have L2 := L1.step hb2 L1.lt
        clear hb2 L1 c0 c1
        have c0 := L2.c0
        have c1 := L2.c1
        go_wp2_with fail
        refine (alive_any _).mono ?_
        rintro e3 w3 ⟨rfl, hb3⟩
        have L3 := L2.step hb3 L2.lt
        go_wp2_with fail
        go_returns
        exact ⟨by first | rfl | simp, HB.out.trans (L3.below.mono s1.out)⟩
      | true =>
        rw [hn] at HN
        have hbad : ¬ es.length ≤ 6 ∨ ¬ 1 ≤ x ∨ ¬ x ≤ 4 := by
          by_cases h6 : es.length ≤ 6
          · by_cases h1 : 1 ≤ x
            · right; right; intro h4; exact hok (by simp [flowOkB, hn]; omega)
            · right; left; exact h1
          · left; exact h6
        clear hok hn
        by_cases h6 : 6 < es.length
        · have hl6 : (6 : Int) < es.length := by omega
          go_wp2_with fail
          refine (HN.out _ L1.edges).mono ?_
          rintro e2 w2 ⟨rfl, hb2⟩
          have L2 := L1.step hb2 L1.lt
          clear hb2 L1 c0 c1
          have c0 := L2.c0
          have c1 := L2.c1
          go_wp2_with fail
          refine (alive_any _).mono ?_
          rintro e3 w3 ⟨rfl, hb3⟩
          have L3 := L2.step hb3 L2.lt
          go_wp2_with fail
          go_returns
          exact ⟨by first | rfl | simp, HB.out.trans (L3.below.mono s1.out)⟩
        · have hl6 : ¬ (6 : Int) < es.length := by omega
          by_cases h1 : x < 1
          · clear hbad
            go_wp2_with fail
            refine (HN.out _ L1.edges).mono ?_
            rintro e2 w2 ⟨rfl, hb2⟩
            have L2 := L1.step hb2 L1.lt
            clear hb2 L1 c0 c1
            have c0 := L2.c0
            have c1 := L2.c1
            go_wp2_with fail
            refine (alive_any _).mono ?_
            rintro e3 w3 ⟨rfl, hb3⟩
            have L3 := L2.step hb3 L2.lt
            go_wp2_with fail
            go_returns
            exact ⟨by first | rfl | simp, HB.out.trans (L3.below.mono s1.out)⟩
          · have h4 : 4 < x := by omega
            clear hbad
            go_wp2_with fail
            refine (HN.out _ L1.edges).mono ?_
            rintro e2 w2 ⟨rfl, hb2⟩
            have L2 := L1.step hb2 L1.lt
            clear hb2 L1 c0 c1
            have c0 := L2.c0
            have c1 := L2.c1
            go_wp2_with fail
            refine (alive_any _).mono ?_
            rintro e3 w3 ⟨rfl, hb3⟩
            have L3 := L2.step hb3 L2.lt
            go_wp2_with fail
            go_returns
            exact ⟨by first | rfl | simp, HB.out.trans (L3.below.mono s1.out)⟩

namespace fnFlowsValue
open Go.ChangeShapes Go.WideShapes Go.ChangeAt Go.RowKit Go.Deep Go.Joins
set_option linter.unusedVariables false
set_option maxRecDepth 100000 in
theorem lifted (os : Os) (started : os.Started) (H : Type) (enc : TypeId × Value → H) :
    ReturnsInHanded {} Try.checked os 8 .any (Rows.fnFlowsValueSpec.pre6 enc Try.prog Try.f8 Rows.fnFlowsValueRow.domain false) (Rows.fnFlowsValueSpec.post enc Try.prog Try.f8 false true false false) := by
  refine returnsInHanded_of_change (C := Try.checked) own started (by kernel_rfl) Try.func8
    (ChangeSpec.witness6 (enc := enc) (C := Try.checked) false ⟨#[], #[.slice none 0 0], []⟩ 8 (by kernel_rfl) (by kernel_rfl) (by kernel_rfl) (by kernel_rfl)) ?_
  intro W base args ds gs before hval0 hW hcnd _
  have hval : ∀ (j : Nat) t v, Try.f8.params[j]? = some t → args[j]? = some v → Value.okWide Try.prog W .any base t v := hval0
  have hW' := hW
  obtain ⟨p, q, hA0, hV, rfl, hfz, hnd⟩ := hW
  have hA : DataW.TrodAll enc Try.prog W 0 (fun _ => true) true Try.f8.params.toList args.toList ds p := hA0
  rw [Try.params8] at hA hval
  obtain ⟨v0, vs0, d0, ds0, p0, q0, hargs, rfl, rfl, h0, r0⟩ := trodAll_cons hA
  obtain ⟨rfl, rfl, rfl⟩ := trodAll_nil r0
  obtain rfl : args = #[v0] := by cases args; simp_all
  obtain ⟨rfl, rfl⟩ := trodVars_none hV
  have k0 := h0
  have lt0 : ∀ x ∈ p0, x.block < W.heap.size := by obtain ⟨m, hm⟩ := k0; exact DataW.trod_lt m _ _ _ hm
  obtain ⟨A0, c0, bs0, rfl, hb0, hl0⟩ := open_bytes (hval 0 22 v0 rfl rfl) h0
  clear hA0 hval0
  refine (flowsValue_law A0 c0 bs0 W hb0 hl0).mono fun e W' ⟨he, bel⟩ => ?_
  subst he
  exact ⟨_, rfl, _, _, _, [], _, [], hW', trodAll_mk1 (shut_bool Try.underlying4 _), (trodAll_cons_mk (Below.trod laidOut (by kernel_rfl) (of_decide_eq_true (by kernel_rfl)) k0 bel lt0) trodAll_mk0), rfl, bel.frame _, fun h => by cases h⟩

theorem holds : Rows.FnFlowsValueSaid :=
  OpenClaim.holds_of_wide 8 Try.f8 rfl rfl rfl rfl rfl rfl rfl ⟨rfl, rfl, rfl, rfl, rfl⟩ rfl rfl rfl rfl rfl (by kernel_rfl) Try.func8 (by kernel_rfl)
    (of_decide_eq_true (by kernel_rfl)) (by unfold Func.isWrapper; first | (rw [if_pos (by decide +kernel)]; kernel_rfl) | (rw [if_neg (by decide +kernel)]; exact ⟨rfl, rfl⟩))
    (fun os started H enc _ => lifted os started H enc)
end fnFlowsValue
end Go.Proofs.Ytdacfeebidhgnab
