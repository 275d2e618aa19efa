/- The law FnPassesOk holds of every code: without edges one passes, with all not; and with any edge fewer one still does. -/
import Derived.Test.YtcmomghlepmogaaDoorDoor
import Derived.Test.YtcmomghlepmogaaDoorTie
import Derived.Test.YtcmomghlepmogaaDoorCards
import Derived.Test.YtcmomghlepmogaaDoorBytes
import Derived.Test.YtcmomghlepmogaaDoorDraw7
import Derived.Test.YtcmomghlepmogaaDoorIs7
namespace Go.Proofs.YtcmomghlepmogaaDoor
open Go.RowKit
set_option maxRecDepth 100000

set_option maxHeartbeats 4000000 in
theorem passesOk_law (A : Option Addr) (cap l : Nat) (w : World) (hb : BytesIn w w.heap.size A l) (hc : l ≤ cap) (HLD : LaidG w) :
    Calls Tryd.prog 4 #[.slice A l cap] w fun e w' => e = .returned (.bool true) ∧ Below w.heap.size w w' := by
  by_cases hbig : 1048576 < l
  · go_enter Tryd.func4, Tryd.ntmps4
    go_wp2
    go_returns
    exact ⟨rfl, Below.refl _ _⟩
  · have hl : l ≤ 1048576 := by omega
    clear hbig
    go_enter Tryd.func4, Tryd.ntmps4
    go_wp2_with fail
    refine (drawPassesOk_any _ _ _ _ hb hl hc).mono ?_
    rintro e1 w1 ⟨s, c, r, rfl, s1, s2, k1, k2, k3, k4, BB1⟩
    clear hb hl hc
    cases hB : gridOkB c r with
    | false =>
      have HV : Hid (passesI s c r = false) := (edge_off (by unfold edgeB; rw [hB]; rfl)).2
      have HE : Hid (gridEI c r = -1) := if_neg (by rw [hB]; simp)
      clear hB
      go_wp2_with fail
      refine (passesOk_is _ _ _ _ HV.out _ (HLD.on (by assumption))).mono ?_
      rintro e2 w2 ⟨rfl, hb2⟩
      have BB2 := BB1.trans (hb2.mono BB1.size)
      clear hb2 BB1
      go_wp2_with fail
      refine (sPassesOk_is _ _ _ _ HV.out _).mono ?_
      rintro e3 w3 ⟨rfl, hb3⟩
      have BB3 := BB2.trans (hb3.mono BB2.size)
      clear hb3 BB2
      go_wp2_with fail
      refine (sGridEdges_is _ _ _ HE.out _).mono ?_
      rintro e4 w4 ⟨rfl, hb4⟩
      have BB4 := BB3.trans (hb4.mono BB3.size)
      clear hb4 BB3
      go_wp2_with fail
      refine (alive_any _).mono ?_
      rintro e5 w5 ⟨rfl, hb5⟩
      have BB5 := BB4.trans (hb5.mono BB4.size)
      clear hb5 BB4
      go_wp2_with fail
      go_returns
      exact ⟨by first | rfl | simp, BB5⟩
    | true =>
      have HB := Lib.hid hB
      obtain ⟨C, R, rfl, rfl, hc, hr⟩ := grid_nat hB
      obtain ⟨n, hn, n1, n13⟩ : ∃ n, gridE C R = n ∧ 1 ≤ n ∧ n ≤ 13 := ⟨_, rfl, (grid_edges hc hr).2.1, (grid_edges hc hr).2.2⟩
      have HE : Hid (gridEI C R = (n : Nat)) := (if_pos hB).trans (by rw [← hn]; rfl)
      obtain ⟨P, hP, p1, p2, hp3, hp4⟩ := pow_named12 n13
      cases hA : inB s P with
      | false =>
        have HV : Hid (passesI s C R = false) := (edge_off (by
          unfold edgeB
          rw [hB, show ((C : Nat) : Int).toNat = C from rfl, show ((R : Nat) : Int).toNat = R from rfl, hn, hP, hA]; rfl)).2
        have hcase : s < 0 ∨ (¬ s < 0 ∧ (P : Int) ≤ s) := by
          simp only [inB, Bool.and_eq_false_iff, decide_eq_false_iff_not] at hA
          omega
        clear hA hP hB hn
        rcases hcase with hs | ⟨hs, hs2⟩
        all_goals
          go_wp2_with fail
          refine (passesOk_is _ _ _ _ HV.out _ (HLD.on (by assumption))).mono ?_
          rintro e2 w2 ⟨rfl, hb2⟩
          have BB2 := BB1.trans (hb2.mono BB1.size)
          clear hb2 BB1
          go_wp2_with fail
          refine (sPassesOk_is _ _ _ _ HV.out _).mono ?_
          rintro e3 w3 ⟨rfl, hb3⟩
          have BB3 := BB2.trans (hb3.mono BB2.size)
          clear hb3 BB2
          go_wp2_with fail
          refine (sGridEdges_is _ _ _ HE.out _).mono ?_
          rintro e4 w4 ⟨rfl, hb4⟩
          have BB4 := BB3.trans (hb4.mono BB3.size)
          clear hb4 BB3
          go_wp2_with fail
          refine (alive_any _).mono ?_
          rintro e5 w5 ⟨rfl, hb5⟩
          have BB5 := BB4.trans (hb5.mono BB4.size)
          clear hb5 BB4
          go_wp2_with fail
          go_returns
          exact ⟨by first | rfl | simp, BB5⟩
      | true =>
        obtain ⟨S, rfl, hS⟩ := inB_nat hA
        have hSE : S < 2 ^ (gridE C R) := by rw [hn, hP]; exact hS
        have HV := Lib.hid (edge_on hB hSE).2
        have HM : Hid (passesN C R S = true → ∀ k, k < n → passesI ((S - (S &&& 2 ^ k) : Nat) : Int) C R = true) := fun hv k hk => by
          have hs2 : S - (S &&& 2 ^ k) < 2 ^ (gridE C R) := Nat.lt_of_le_of_lt (Nat.sub_le _ _) hSE
          rw [(edge_on hB hs2).2]
          exact passes_mono hc hr hSE hs2 (fun i hi => less_bit S k i hi) hv
        have H0 : Hid (passesI (0 : Int) C R = true) := by
          have h0 : (0 : Nat) < 2 ^ (gridE C R) := Nat.two_pow_pos _
          have := (edge_on hB h0).2
          rw [show ((0 : Nat) : Int) = 0 from rfl] at this
          rw [Hid, this]; exact (pass_ends hc hr).1
        have HA1 : Hid (passesI ((P - 1 : Nat) : Int) C R = false) := by
          have h0 : 2 ^ (gridE C R) - 1 < 2 ^ (gridE C R) := by have := Nat.two_pow_pos (gridE C R); omega
          have := (edge_on hB h0).2
          rw [hn, hP] at this
          rw [Hid, this, ← hP, ← hn]; exact (pass_ends hc hr).2
        have wP1 : IntKind.i64.wrap ((P : Int) - 1) = ((P - 1 : Nat) : Int) := by rw [IntWalk.i64_in _ (by omega)]; omega
        have i1 : ¬ ((S : Nat) : Int) < 0 := by omega
        have i2 : ¬ (P : Int) ≤ ((S : Nat) : Int) := by omega
        have i3 : ((S : Nat) : Int) < (P : Int) := by omega
        have hSle : S ≤ 8192 := by omega
        clear hA hP hB hn hSE
        generalize passesN C R S = v at *
        cases v with
        | false =>
          clear HM
          go_wp2_with fail
          refine (passesOk_is _ _ _ _ HV.out _ (HLD.on (by assumption))).mono ?_
          rintro e2 w2 ⟨rfl, hb2⟩
          have BB2 := BB1.trans (hb2.mono BB1.size)
          clear hb2 BB1
          go_wp2_with fail
          refine (sPassesOk_is _ _ _ _ HV.out _).mono ?_
          rintro e3 w3 ⟨rfl, hb3⟩
          have BB3 := BB2.trans (hb3.mono BB2.size)
          clear hb3 BB2
          go_wp2_with fail
          refine (sGridEdges_is _ _ _ HE.out _).mono ?_
          rintro e4 w4 ⟨rfl, hb4⟩
          have BB4 := BB3.trans (hb4.mono BB3.size)
          clear hb4 BB3
          go_wp2_with fail
          go_loopw [8] (fun k wr => k = .int .i64 0 ∧ Below w.heap.size w wr) (fun _ _ => 0)
          case atStart => exact ⟨rfl, BB4⟩
          case round =>
            clear BB4
            obtain ⟨rfl, BBr⟩ := hrel
            go_wp2_with fail
            refine (passesOk_is _ _ _ _ H0.out _ (HLD.on (by assumption))).mono ?_
            rintro e31 w31 ⟨rfl, hb31⟩
            have BB31 := BBr.trans (hb31.mono BBr.size)
            clear hb31 BBr
            go_wp2_with fail
            refine (passesOk_is _ _ _ _ HA1.out _ (HLD.on (by assumption))).mono ?_
            rintro e32 w32 ⟨rfl, hb32⟩
            have BB32 := BB31.trans (hb32.mono BB31.size)
            clear hb32 BB31
            go_wp2_with fail
            go_returns
            exact ⟨by first | rfl | simp, BB32⟩
        | true =>
          have HMM := Lib.hid (HM.out rfl)
          clear HM
          go_wp2_with fail
          refine (passesOk_is _ _ _ _ HV.out _ (HLD.on (by assumption))).mono ?_
          rintro e2 w2 ⟨rfl, hb2⟩
          have BB2 := BB1.trans (hb2.mono BB1.size)
          clear hb2 BB1
          go_wp2_with fail
          refine (sPassesOk_is _ _ _ _ HV.out _).mono ?_
          rintro e3 w3 ⟨rfl, hb3⟩
          have BB3 := BB2.trans (hb3.mono BB2.size)
          clear hb3 BB2
          go_wp2_with fail
          refine (sGridEdges_is _ _ _ HE.out _).mono ?_
          rintro e4 w4 ⟨rfl, hb4⟩
          have BB4 := BB3.trans (hb4.mono BB3.size)
          clear hb4 BB3
          go_wp2_with fail
          go_loopw [8] (fun k wr => ∃ K : Nat, K ≤ n ∧ k = .int .i64 (K : Nat) ∧ Below w.heap.size w wr) (fun k _ => n - (intOf k).toNat)
          case atStart => exact ⟨0, by omega, rfl, BB4⟩
          case round =>
            clear BB4
            obtain ⟨K, hK, rfl, BBr⟩ := hrel
            by_cases hlt : K < n
            · have HK := Lib.hid (HMM.out K hlt)
              obtain ⟨Q, hQ, q1, q2, hq3, hq4⟩ := pow_named12 (show K ≤ 13 by omega)
              rw [hQ] at HK
              have hop := andNot_small (x := S) Q hSle
              generalize S - (S &&& Q) = S2 at *
              clear hQ
              have iK : (K : Int) < (n : Int) := by omega
              go_wp2_with fail
              refine (passesOk_is _ _ _ _ HK.out _ (HLD.on (by assumption))).mono ?_
              rintro e31 w31 ⟨rfl, hb31⟩
              have BB31 := BBr.trans (hb31.mono BBr.size)
              clear hb31 BBr
              go_wp2_with fail
              go_roundw
              case rel => exact ⟨K + 1, by omega, by go_num, BB31⟩
              case measure => simp [intOf]; omega
            · obtain rfl : K = n := by omega
              go_wp2_with fail
              refine (passesOk_is _ _ _ _ H0.out _ (HLD.on (by assumption))).mono ?_
              rintro e41 w41 ⟨rfl, hb41⟩
              have BB41 := BBr.trans (hb41.mono BBr.size)
              clear hb41 BBr
              go_wp2_with fail
              refine (passesOk_is _ _ _ _ HA1.out _ (HLD.on (by assumption))).mono ?_
              rintro e42 w42 ⟨rfl, hb42⟩
              have BB42 := BB41.trans (hb42.mono BB41.size)
              clear hb42 BB41
              go_wp2_with fail
              go_returns
              exact ⟨by first | rfl | simp, BB42⟩

namespace fnPassesOk
open Go.ChangeShapes Go.WideShapes Go.ChangeAt Go.RowKit Go.Deep Go.Joins
set_option linter.unusedVariables false
set_option maxRecDepth 100000 in
theorem lifted (os : Os) (started : os.Started) (H : Type) (enc : TypeId × Value → H) :
    ReturnsInHanded {} Tryd.checked os 4 .any (fun w args => (Rows.fnPassesOkSpec.pre enc Tryd.prog Tryd.f4 Rows.fnPassesOkRow.domain false w args ∧ laidMetH Tryd.prog Rows.fnPassesOkRow.laid w) ∧ sizedMet enc Tryd.prog Tryd.f4 (OpenSpec.ofChange Rows.fnPassesOkSpec) false w args)
      (Rows.fnPassesOkSpec.post enc Tryd.prog Tryd.f4 false true false false) := by
  refine returnsInHanded_of_change_and (C := Tryd.checked) (X := fun w _ => laidMetH Tryd.prog Rows.fnPassesOkRow.laid w) (fun _ _ _ hh h => h.of_heap hh) own started (by kernel_rfl) Tryd.func4
    (ChangeSpec.witness_shaped (enc := enc) (C := Tryd.checked) (os := os) (X := fun w _ => laidMetH Tryd.prog Rows.fnPassesOkRow.laid w) false (World.laidAll Tryd.prog os Rows.fnPassesOkRow.laid) #[.slice none 0 0] 8 (World.laidAll_os _ _ _)
      (World.shaped_of_ZipB (by kernel_rfl) (by kernel_rfl)) (by kernel_rfl) (by kernel_rfl) (by kernel_rfl)
      (by rw [MakeChecks.laidMetH_plain _ _ _ (by kernel_rfl)]; exact laidMet_laidAll _ (by kernel_rfl) (by kernel_rfl))) ?_
  intro W base args ds gs before hval0 hW hcnd _ hL _
  rw [MakeChecks.laidMetH_plain _ _ _ (by kernel_rfl)] at hL
  have hM := hL
  have HLD : LaidG W := ⟨laidS_of hM (by simp [Rows.fnPassesOkRow]), laidZ_of hM (by simp [Rows.fnPassesOkRow])⟩
  have hval : ∀ (j : Nat) t v, Tryd.f4.params[j]? = some t → args[j]? = some v → Value.okWide Tryd.prog W .any base t v := hval0
  have hW' := hW
  obtain ⟨p, q, hA0, hV, rfl, hfz, hnd⟩ := hW
  have hA : DataW.TrodAll enc Tryd.prog W 0 (fun _ => true) true Tryd.f4.params.toList args.toList ds p := hA0
  rw [Tryd.params4] at hA hval
  obtain ⟨v0, vs0, d0, ds0, p0, q0, hargs, rfl, rfl, h0, r0⟩ := trodAll_cons hA
  obtain ⟨rfl, rfl, rfl⟩ := trodAll_nil r0
  obtain rfl : args = #[v0] := by cases args; simp_all
  obtain ⟨g1, rfl⟩ : ∃ g1, gs = [g1] := by obtain ⟨_, _, _, _, d, _, h, _⟩ := trodVars_one hV; exact ⟨d, h⟩
  have k0 := h0
  have lt0 : ∀ x ∈ p0, x.block < W.heap.size := by obtain ⟨m, hm⟩ := k0; exact DataW.trod_lt m _ _ _ hm
  obtain ⟨A0, c0, bs0, rfl, hb0, hl0⟩ := open_bytes (hval 0 22 v0 rfl rfl) h0
  clear hA0 hval0
  refine (passesOk_law A0 c0 bs0 W hb0 hl0 HLD).mono fun e W' ⟨he, bel⟩ => ?_
  subst he
  exact ⟨_, rfl, _, _, _, _, _, _, hW', trodAll_mk1 (shut_bool Tryd.underlying4 _), (trodAll_cons_mk (Below.trod laidOut (by kernel_rfl) (of_decide_eq_true (by kernel_rfl)) k0 bel lt0) trodAll_mk0), Below.trodVars laidOut bel (by kernel_rfl) hV, bel.frame _, fun h => by cases h⟩

theorem row_holds : Rows.FnPassesOkSaid :=
  OpenClaim.holds_of_wide 4 Tryd.f4 rfl rfl rfl rfl rfl rfl rfl ⟨rfl, rfl, rfl, rfl, rfl⟩ rfl rfl rfl rfl rfl (by kernel_rfl) Tryd.func4 (by kernel_rfl)
    (of_decide_eq_true (by kernel_rfl)) (by unfold Func.isWrapper; first | (rw [if_pos (by decide +kernel)]; kernel_rfl) | (rw [if_neg (by decide +kernel)]; exact ⟨rfl, rfl⟩))
    (fun os started H enc _ => lifted os started H enc)
theorem holds : Rows.FnPassesOkCardSaid :=
  Claim7.holds_tied_plain_at .later [] Rows.fnPassesOkCard.laidKinds true Rows.fnPassesOkCard.stood.harness false row_holds (fun _ h => by cases h) (by kernel_rfl) (fun _ h => by cases h) fnPassesOk_row_tie rfl ⟨rfl, rfl⟩ (by kernel_rfl) rfl
    (fun f fn hf hfn => by
      obtain rfl : f = 4 := Option.some.inj ((show Tryd.prog.funcNamed "loop.example/failingnets/laws.FnPassesOk" = some 4 by kernel_rfl).symm.trans hf) |>.symm
      obtain rfl : fn = Tryd.f4 := (Option.some.inj (Tryd.func4.symm.trans hfn)).symm
      exact ⟨by kernel_rfl, fun j t ht => by
        rw [Tryd.params4] at ht
        have hm : t ∈ [22] := by simpa using Array.mem_of_getElem? ht
        have hall : ([22].all fun u => !Tryd.prog.wantsStandIn u) = true := by kernel_rfl
        exact (show Tryd.prog.wantsStandIn t = false by simpa using List.all_eq_true.1 hall t hm)⟩)
    (by kernel_rfl)
end fnPassesOk

end Go.Proofs.YtcmomghlepmogaaDoor
