/- The law FnCountDark holds of every code: on square boards half is won by dark; of one row it is 1, and of one column all states but one; with a row more it is at least as many times 2 taken as often as there are columns. -/
import Derived.Test.YtcmomghlepmogabDoorDoor
import Derived.Test.YtcmomghlepmogabDoorTie
import Derived.Test.YtcmomghlepmogabDoorCards
import Derived.Test.YtcmomghlepmogabDoorBytes
import Derived.Test.YtcmomghlepmogabDoorDraw7
import Derived.Test.YtcmomghlepmogabDoorIs7
namespace Go.Proofs.YtcmomghlepmogabDoor
open Go.RowKit
set_option maxRecDepth 100000

set_option maxHeartbeats 4000000 in
theorem countDark_law (A : Option Addr) (cap l : Nat) (w : World) (hb : BytesIn w w.heap.size A l) (hc : l ≤ cap) (HLD : LaidB w) :
    Calls Tryd.prog 6 #[.slice A l cap] w fun e w' => e = .returned (.bool true) ∧ Below w.heap.size w w' := by
  by_cases hbig : 1048576 < l
  · go_enter Tryd.func6, Tryd.ntmps6
    go_wp2
    go_returns
    exact ⟨rfl, Below.refl _ _⟩
  · have hl : l ≤ 1048576 := by omega
    clear hbig
    go_enter Tryd.func6, Tryd.ntmps6
    go_wp2_with fail
    refine (drawCountDark_any _ _ _ _ hb hl hc).mono ?_
    rintro e1 w1 ⟨c, r, rfl, k1, k2, k3, k4, BB1⟩
    clear hb hl hc
    cases hB : boardB c r with
    | false =>
      have HV : Hid (cntDI c r = -1) := if_neg (by rw [hB]; simp)
      clear hB
      go_wp2_with fail
      refine (countDark_is _ _ _ HV.out _ (HLD.on (by assumption))).mono ?_
      rintro e2 w2 ⟨rfl, hb2⟩
      have BB2 := BB1.trans (hb2.mono BB1.size)
      clear hb2 BB1
      go_wp2_with fail
      refine (sCountDark_is _ _ _ HV.out _).mono ?_
      rintro e3 w3 ⟨rfl, hb3⟩
      have BB3 := BB2.trans (hb3.mono BB2.size)
      clear hb3 BB2
      go_wp2_with fail
      refine (alive_any _).mono ?_
      rintro e4 w4 ⟨rfl, hb4⟩
      have BB4 := BB3.trans (hb4.mono BB3.size)
      clear hb4 BB3
      go_wp2_with fail
      go_returns
      exact ⟨by first | rfl | simp, BB4⟩
    | true =>
      have hBB := boardB_iff.1 hB
      clear hB k1 k2 k3 k4
      rcases (show c = 1 ∨ c = 2 ∨ c = 3 ∨ c = 4 by omega) with rfl | rfl | rfl | rfl <;> rcases (show r = 1 ∨ r = 2 ∨ r = 3 by omega) with rfl | rfl | rfl <;> clear hBB
      · have HV : Hid (cntDI 1 1 = 1) := by rw [Hid]; decide
        have HT : Hid (cntDI 1 2 = 3) := by rw [Hid]; decide
        go_wp2_with fail
        refine (countDark_is _ _ _ HV.out _ (HLD.on (by assumption))).mono ?_
        rintro e2 w2 ⟨rfl, hb2⟩
        have BB2 := BB1.trans (hb2.mono BB1.size)
        clear hb2 BB1
        go_wp2_with fail
        refine (sCountDark_is _ _ _ HV.out _).mono ?_
        rintro e3 w3 ⟨rfl, hb3⟩
        have BB3 := BB2.trans (hb3.mono BB2.size)
        clear hb3 BB2
        go_wp2_with fail
        refine (countDark_is _ _ _ HT.out _ (HLD.on (by assumption))).mono ?_
        rintro e4 w4 ⟨rfl, hb4⟩
        have BB4 := BB3.trans (hb4.mono BB3.size)
        clear hb4 BB3
        go_wp2_with fail
        go_returns
        exact ⟨by first | rfl | simp, BB4⟩
      · have HV : Hid (cntDI 1 2 = 3) := by rw [Hid]; decide
        have HT : Hid (cntDI 1 3 = 7) := by rw [Hid]; decide
        go_wp2_with fail
        refine (countDark_is _ _ _ HV.out _ (HLD.on (by assumption))).mono ?_
        rintro e2 w2 ⟨rfl, hb2⟩
        have BB2 := BB1.trans (hb2.mono BB1.size)
        clear hb2 BB1
        go_wp2_with fail
        refine (sCountDark_is _ _ _ HV.out _).mono ?_
        rintro e3 w3 ⟨rfl, hb3⟩
        have BB3 := BB2.trans (hb3.mono BB2.size)
        clear hb3 BB2
        go_wp2_with fail
        refine (countDark_is _ _ _ HT.out _ (HLD.on (by assumption))).mono ?_
        rintro e4 w4 ⟨rfl, hb4⟩
        have BB4 := BB3.trans (hb4.mono BB3.size)
        clear hb4 BB3
        go_wp2_with fail
        go_returns
        exact ⟨by first | rfl | simp, BB4⟩
      · have HV : Hid (cntDI 1 3 = 7) := by rw [Hid]; decide
        have HT : Hid (cntDI 1 4 = -1) := by rw [Hid]; decide
        go_wp2_with fail
        refine (countDark_is _ _ _ HV.out _ (HLD.on (by assumption))).mono ?_
        rintro e2 w2 ⟨rfl, hb2⟩
        have BB2 := BB1.trans (hb2.mono BB1.size)
        clear hb2 BB1
        go_wp2_with fail
        refine (sCountDark_is _ _ _ HV.out _).mono ?_
        rintro e3 w3 ⟨rfl, hb3⟩
        have BB3 := BB2.trans (hb3.mono BB2.size)
        clear hb3 BB2
        go_wp2_with fail
        refine (countDark_is _ _ _ HT.out _ (HLD.on (by assumption))).mono ?_
        rintro e4 w4 ⟨rfl, hb4⟩
        have BB4 := BB3.trans (hb4.mono BB3.size)
        clear hb4 BB3
        go_wp2_with fail
        go_returns
        exact ⟨by first | rfl | simp, BB4⟩
      · have HV : Hid (cntDI 2 1 = 1) := by rw [Hid]; decide
        have HT : Hid (cntDI 2 2 = 8) := by rw [Hid]; decide
        go_wp2_with fail
        refine (countDark_is _ _ _ HV.out _ (HLD.on (by assumption))).mono ?_
        rintro e2 w2 ⟨rfl, hb2⟩
        have BB2 := BB1.trans (hb2.mono BB1.size)
        clear hb2 BB1
        go_wp2_with fail
        refine (sCountDark_is _ _ _ HV.out _).mono ?_
        rintro e3 w3 ⟨rfl, hb3⟩
        have BB3 := BB2.trans (hb3.mono BB2.size)
        clear hb3 BB2
        go_wp2_with fail
        refine (countDark_is _ _ _ HT.out _ (HLD.on (by assumption))).mono ?_
        rintro e4 w4 ⟨rfl, hb4⟩
        have BB4 := BB3.trans (hb4.mono BB3.size)
        clear hb4 BB3
        go_wp2_with fail
        go_returns
        exact ⟨by first | rfl | simp, BB4⟩
      · have HV : Hid (cntDI 2 2 = 8) := by rw [Hid]; decide
        have HT : Hid (cntDI 2 3 = 43) := by rw [Hid]; decide
        go_wp2_with fail
        refine (countDark_is _ _ _ HV.out _ (HLD.on (by assumption))).mono ?_
        rintro e2 w2 ⟨rfl, hb2⟩
        have BB2 := BB1.trans (hb2.mono BB1.size)
        clear hb2 BB1
        go_wp2_with fail
        refine (sCountDark_is _ _ _ HV.out _).mono ?_
        rintro e3 w3 ⟨rfl, hb3⟩
        have BB3 := BB2.trans (hb3.mono BB2.size)
        clear hb3 BB2
        go_wp2_with fail
        refine (countDark_is _ _ _ HT.out _ (HLD.on (by assumption))).mono ?_
        rintro e4 w4 ⟨rfl, hb4⟩
        have BB4 := BB3.trans (hb4.mono BB3.size)
        clear hb4 BB3
        go_wp2_with fail
        go_returns
        exact ⟨by first | rfl | simp, BB4⟩
      · have HV : Hid (cntDI 2 3 = 43) := by rw [Hid]; decide
        have HT : Hid (cntDI 2 4 = -1) := by rw [Hid]; decide
        go_wp2_with fail
        refine (countDark_is _ _ _ HV.out _ (HLD.on (by assumption))).mono ?_
        rintro e2 w2 ⟨rfl, hb2⟩
        have BB2 := BB1.trans (hb2.mono BB1.size)
        clear hb2 BB1
        go_wp2_with fail
        refine (sCountDark_is _ _ _ HV.out _).mono ?_
        rintro e3 w3 ⟨rfl, hb3⟩
        have BB3 := BB2.trans (hb3.mono BB2.size)
        clear hb3 BB2
        go_wp2_with fail
        refine (countDark_is _ _ _ HT.out _ (HLD.on (by assumption))).mono ?_
        rintro e4 w4 ⟨rfl, hb4⟩
        have BB4 := BB3.trans (hb4.mono BB3.size)
        clear hb4 BB3
        go_wp2_with fail
        go_returns
        exact ⟨by first | rfl | simp, BB4⟩
      · have HV : Hid (cntDI 3 1 = 1) := by rw [Hid]; decide
        have HT : Hid (cntDI 3 2 = 21) := by rw [Hid]; decide
        go_wp2_with fail
        refine (countDark_is _ _ _ HV.out _ (HLD.on (by assumption))).mono ?_
        rintro e2 w2 ⟨rfl, hb2⟩
        have BB2 := BB1.trans (hb2.mono BB1.size)
        clear hb2 BB1
        go_wp2_with fail
        refine (sCountDark_is _ _ _ HV.out _).mono ?_
        rintro e3 w3 ⟨rfl, hb3⟩
        have BB3 := BB2.trans (hb3.mono BB2.size)
        clear hb3 BB2
        go_wp2_with fail
        refine (countDark_is _ _ _ HT.out _ (HLD.on (by assumption))).mono ?_
        rintro e4 w4 ⟨rfl, hb4⟩
        have BB4 := BB3.trans (hb4.mono BB3.size)
        clear hb4 BB3
        go_wp2_with fail
        go_returns
        exact ⟨by first | rfl | simp, BB4⟩
      · have HV : Hid (cntDI 3 2 = 21) := by rw [Hid]; decide
        have HT : Hid (cntDI 3 3 = 256) := by rw [Hid]; decide
        go_wp2_with fail
        refine (countDark_is _ _ _ HV.out _ (HLD.on (by assumption))).mono ?_
        rintro e2 w2 ⟨rfl, hb2⟩
        have BB2 := BB1.trans (hb2.mono BB1.size)
        clear hb2 BB1
        go_wp2_with fail
        refine (sCountDark_is _ _ _ HV.out _).mono ?_
        rintro e3 w3 ⟨rfl, hb3⟩
        have BB3 := BB2.trans (hb3.mono BB2.size)
        clear hb3 BB2
        go_wp2_with fail
        refine (countDark_is _ _ _ HT.out _ (HLD.on (by assumption))).mono ?_
        rintro e4 w4 ⟨rfl, hb4⟩
        have BB4 := BB3.trans (hb4.mono BB3.size)
        clear hb4 BB3
        go_wp2_with fail
        go_returns
        exact ⟨by first | rfl | simp, BB4⟩
      · have HV : Hid (cntDI 3 3 = 256) := by rw [Hid]; decide
        have HT : Hid (cntDI 3 4 = -1) := by rw [Hid]; decide
        go_wp2_with fail
        refine (countDark_is _ _ _ HV.out _ (HLD.on (by assumption))).mono ?_
        rintro e2 w2 ⟨rfl, hb2⟩
        have BB2 := BB1.trans (hb2.mono BB1.size)
        clear hb2 BB1
        go_wp2_with fail
        refine (sCountDark_is _ _ _ HV.out _).mono ?_
        rintro e3 w3 ⟨rfl, hb3⟩
        have BB3 := BB2.trans (hb3.mono BB2.size)
        clear hb3 BB2
        go_wp2_with fail
        refine (countDark_is _ _ _ HT.out _ (HLD.on (by assumption))).mono ?_
        rintro e4 w4 ⟨rfl, hb4⟩
        have BB4 := BB3.trans (hb4.mono BB3.size)
        clear hb4 BB3
        go_wp2_with fail
        go_returns
        exact ⟨by first | rfl | simp, BB4⟩
      · have HV : Hid (cntDI 4 1 = 1) := by rw [Hid]; decide
        have HT : Hid (cntDI 4 2 = 55) := by rw [Hid]; decide
        go_wp2_with fail
        refine (countDark_is _ _ _ HV.out _ (HLD.on (by assumption))).mono ?_
        rintro e2 w2 ⟨rfl, hb2⟩
        have BB2 := BB1.trans (hb2.mono BB1.size)
        clear hb2 BB1
        go_wp2_with fail
        refine (sCountDark_is _ _ _ HV.out _).mono ?_
        rintro e3 w3 ⟨rfl, hb3⟩
        have BB3 := BB2.trans (hb3.mono BB2.size)
        clear hb3 BB2
        go_wp2_with fail
        refine (countDark_is _ _ _ HT.out _ (HLD.on (by assumption))).mono ?_
        rintro e4 w4 ⟨rfl, hb4⟩
        have BB4 := BB3.trans (hb4.mono BB3.size)
        clear hb4 BB3
        go_wp2_with fail
        go_returns
        exact ⟨by first | rfl | simp, BB4⟩
      · have HV : Hid (cntDI 4 2 = 55) := by rw [Hid]; decide
        have HT : Hid (cntDI 4 3 = 1509) := by rw [Hid]; decide
        go_wp2_with fail
        refine (countDark_is _ _ _ HV.out _ (HLD.on (by assumption))).mono ?_
        rintro e2 w2 ⟨rfl, hb2⟩
        have BB2 := BB1.trans (hb2.mono BB1.size)
        clear hb2 BB1
        go_wp2_with fail
        refine (sCountDark_is _ _ _ HV.out _).mono ?_
        rintro e3 w3 ⟨rfl, hb3⟩
        have BB3 := BB2.trans (hb3.mono BB2.size)
        clear hb3 BB2
        go_wp2_with fail
        refine (countDark_is _ _ _ HT.out _ (HLD.on (by assumption))).mono ?_
        rintro e4 w4 ⟨rfl, hb4⟩
        have BB4 := BB3.trans (hb4.mono BB3.size)
        clear hb4 BB3
        go_wp2_with fail
        go_returns
        exact ⟨by first | rfl | simp, BB4⟩
      · have HV : Hid (cntDI 4 3 = 1509) := by rw [Hid]; decide
        have HT : Hid (cntDI 4 4 = -1) := by rw [Hid]; decide
        go_wp2_with fail
        refine (countDark_is _ _ _ HV.out _ (HLD.on (by assumption))).mono ?_
        rintro e2 w2 ⟨rfl, hb2⟩
        have BB2 := BB1.trans (hb2.mono BB1.size)
        clear hb2 BB1
        go_wp2_with fail
        refine (sCountDark_is _ _ _ HV.out _).mono ?_
        rintro e3 w3 ⟨rfl, hb3⟩
        have BB3 := BB2.trans (hb3.mono BB2.size)
        clear hb3 BB2
        go_wp2_with fail
        refine (countDark_is _ _ _ HT.out _ (HLD.on (by assumption))).mono ?_
        rintro e4 w4 ⟨rfl, hb4⟩
        have BB4 := BB3.trans (hb4.mono BB3.size)
        clear hb4 BB3
        go_wp2_with fail
        go_returns
        exact ⟨by first | rfl | simp, BB4⟩

namespace fnCountDark
open Go.ChangeShapes Go.WideShapes Go.ChangeAt Go.RowKit Go.Deep Go.Joins
set_option linter.unusedVariables false
set_option maxRecDepth 100000 in
theorem lifted (os : Os) (started : os.Started) (H : Type) (enc : TypeId × Value → H) :
    ReturnsInHanded {} Tryd.checked os 6 .any (fun w args => (Rows.fnCountDarkSpec.pre enc Tryd.prog Tryd.f6 Rows.fnCountDarkRow.domain false w args ∧ laidMetH Tryd.prog Rows.fnCountDarkRow.laid w) ∧ sizedMet enc Tryd.prog Tryd.f6 (OpenSpec.ofChange Rows.fnCountDarkSpec) false w args)
      (Rows.fnCountDarkSpec.post enc Tryd.prog Tryd.f6 false true false false) := by
  refine returnsInHanded_of_change_and (C := Tryd.checked) (X := fun w _ => laidMetH Tryd.prog Rows.fnCountDarkRow.laid w) (fun _ _ _ hh h => h.of_heap hh) own started (by kernel_rfl) Tryd.func6
    (ChangeSpec.witness_shaped (enc := enc) (C := Tryd.checked) (os := os) (X := fun w _ => laidMetH Tryd.prog Rows.fnCountDarkRow.laid w) false (World.laidAll Tryd.prog os Rows.fnCountDarkRow.laid) #[.slice none 0 0] 8 (World.laidAll_os _ _ _)
      (World.shaped_of_ZipB (by kernel_rfl) (by kernel_rfl)) (by kernel_rfl) (by kernel_rfl) (by kernel_rfl)
      (by rw [MakeChecks.laidMetH_plain _ _ _ (by kernel_rfl)]; exact laidMet_laidAll _ (by kernel_rfl) (by kernel_rfl))) ?_
  intro W base args ds gs before hval0 hW hcnd _ hL _
  rw [MakeChecks.laidMetH_plain _ _ _ (by kernel_rfl)] at hL
  have hM := hL
  have HLD : LaidB W := ⟨laidT_of hM (by simp [Rows.fnCountDarkRow]), laidZ_of hM (by simp [Rows.fnCountDarkRow])⟩
  have hval : ∀ (j : Nat) t v, Tryd.f6.params[j]? = some t → args[j]? = some v → Value.okWide Tryd.prog W .any base t v := hval0
  have hW' := hW
  obtain ⟨p, q, hA0, hV, rfl, hfz, hnd⟩ := hW
  have hA : DataW.TrodAll enc Tryd.prog W 0 (fun _ => true) true Tryd.f6.params.toList args.toList ds p := hA0
  rw [Tryd.params6] at hA hval
  obtain ⟨v0, vs0, d0, ds0, p0, q0, hargs, rfl, rfl, h0, r0⟩ := trodAll_cons hA
  obtain ⟨rfl, rfl, rfl⟩ := trodAll_nil r0
  obtain rfl : args = #[v0] := by cases args; simp_all
  obtain ⟨g1, rfl⟩ : ∃ g1, gs = [g1] := by obtain ⟨_, _, _, _, d, _, h, _⟩ := trodVars_one hV; exact ⟨d, h⟩
  have k0 := h0
  have lt0 : ∀ x ∈ p0, x.block < W.heap.size := by obtain ⟨m, hm⟩ := k0; exact DataW.trod_lt m _ _ _ hm
  obtain ⟨A0, c0, bs0, rfl, hb0, hl0⟩ := open_bytes (hval 0 22 v0 rfl rfl) h0
  clear hA0 hval0
  refine (countDark_law A0 c0 bs0 W hb0 hl0 HLD).mono fun e W' ⟨he, bel⟩ => ?_
  subst he
  exact ⟨_, rfl, _, _, _, _, _, _, hW', trodAll_mk1 (shut_bool Tryd.underlying4 _), (trodAll_cons_mk (Below.trod laidOut (by kernel_rfl) (of_decide_eq_true (by kernel_rfl)) k0 bel lt0) trodAll_mk0), Below.trodVars laidOut bel (by kernel_rfl) hV, bel.frame _, fun h => by cases h⟩

theorem row_holds : Rows.FnCountDarkSaid :=
  OpenClaim.holds_of_wide 6 Tryd.f6 rfl rfl rfl rfl rfl rfl rfl ⟨rfl, rfl, rfl, rfl, rfl⟩ rfl rfl rfl rfl rfl (by kernel_rfl) Tryd.func6 (by kernel_rfl)
    (of_decide_eq_true (by kernel_rfl)) (by unfold Func.isWrapper; first | (rw [if_pos (by decide +kernel)]; kernel_rfl) | (rw [if_neg (by decide +kernel)]; exact ⟨rfl, rfl⟩))
    (fun os started H enc _ => lifted os started H enc)
theorem holds : Rows.FnCountDarkCardSaid :=
  Claim7.holds_tied_plain_at .later [] Rows.fnCountDarkCard.laidKinds true Rows.fnCountDarkCard.stood.harness false row_holds (fun _ h => by cases h) (by kernel_rfl) (fun _ h => by cases h) fnCountDark_row_tie rfl ⟨rfl, rfl⟩ (by kernel_rfl) rfl
    (fun f fn hf hfn => by
      obtain rfl : f = 6 := Option.some.inj ((show Tryd.prog.funcNamed "loop.example/failingnets/laws.FnCountDark" = some 6 by kernel_rfl).symm.trans hf) |>.symm
      obtain rfl : fn = Tryd.f6 := (Option.some.inj (Tryd.func6.symm.trans hfn)).symm
      exact ⟨by kernel_rfl, fun j t ht => by
        rw [Tryd.params6] at ht
        have hm : t ∈ [22] := by simpa using Array.mem_of_getElem? ht
        have hall : ([22].all fun u => !Tryd.prog.wantsStandIn u) = true := by kernel_rfl
        exact (show Tryd.prog.wantsStandIn t = false by simpa using List.all_eq_true.1 hall t hm)⟩)
    (by kernel_rfl)
end fnCountDark

end Go.Proofs.YtcmomghlepmogabDoor
