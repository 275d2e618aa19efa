/- The law FnCountLeads holds of every code: with one column more than rows all counts together are half of all states; and the counts of as many edges, and of as many lacking, are together all choices of so many. -/
import Derived.Test.YtcmomghlepmogaaDoorDoor
import Derived.Test.YtcmomghlepmogaaDoorTie
import Derived.Test.YtcmomghlepmogaaDoorCards
import Derived.Test.YtcmomghlepmogaaDoorBytes
import Derived.Test.YtcmomghlepmogaaDoorDraw7
import Derived.Test.YtcmomghlepmogaaDoorSum7
namespace Go.Proofs.YtcmomghlepmogaaDoor
open Go.RowKit
set_option maxRecDepth 100000

set_option maxHeartbeats 4000000 in
theorem countLeads_law (A : Option Addr) (cap l : Nat) (w : World) (hb : BytesIn w w.heap.size A l) (hc : l ≤ cap) (HLD : LaidG w) :
    Calls Tryd.prog 5 #[.slice A l cap] w fun e w' => e = .returned (.bool true) ∧ Below w.heap.size w w' := by
  by_cases hbig : 1048576 < l
  · go_enter Tryd.func5, Tryd.ntmps5
    go_wp2
    go_returns
    exact ⟨rfl, Below.refl _ _⟩
  · have hl : l ≤ 1048576 := by omega
    clear hbig
    go_enter Tryd.func5, Tryd.ntmps5
    go_wp2_with fail
    refine (drawCountLeads_any _ _ _ _ hb hl hc).mono ?_
    rintro e1 w1 ⟨c, r, rfl, k1, k2, k3, k4, BB1⟩
    clear hb hl hc
    cases hB : gridOkB c r with
    | false =>
      have HB := Lib.hid hB
      have HL : Hid (cntLL c r = []) := if_neg (by rw [hB]; simp)
      have HI : Hid (∀ u, LaidG u → Calls Tryd.prog 19 #[.int .i64 c, .int .i64 r] u (GotNo u)) := fun u hu => (countLeads_any c r u hu).mono fun _ _ h => by rw [HL.out] at h; exact h.no
      have HS : Hid (∀ u, Calls Tryd.prog 21 #[.int .i64 c, .int .i64 r] u (GotNo u)) := fun u => (specCountLeads_any c r u).mono fun _ _ h => by rw [HL.out] at h; exact h.no
      clear hB HL
      go_wp2_with fail
      refine (HI.out _ (HLD.on (by assumption))).mono ?_
      rintro e2 w2 ⟨A2, c2, rfl, hb2⟩
      have BB2 := BB1.trans (hb2.mono BB1.size)
      clear hb2 BB1
      go_wp2_with fail
      refine (HS.out _).mono ?_
      rintro e3 w3 ⟨A3, c3, rfl, hb3⟩
      have BB3 := BB2.trans (hb3.mono BB2.size)
      clear hb3 BB2
      go_wp2_with fail
      refine (sameInts_self _ _ _ _ 0 [] _ IntsIn.nil IntsIn.nil rfl (by omega)).mono ?_
      rintro e4 w4 ⟨rfl, hb4⟩
      have BB4 := BB3.trans (hb4.mono BB3.size)
      clear hb4 BB3
      go_wp2_with fail
      refine (gridOk_is _ _ _ HB.out _).mono ?_
      rintro e11 w11 ⟨rfl, hb11⟩
      have BB11 := BB4.trans (hb11.mono BB4.size)
      clear hb11 BB4
      go_wp2_with fail
      refine (alive_any _).mono ?_
      rintro e12 w12 ⟨rfl, hb12⟩
      have BB12 := BB11.trans (hb12.mono BB11.size)
      clear hb12 BB11
      go_wp2_with fail
      go_returns
      exact ⟨by first | rfl | simp, BB12⟩
    | true =>
      have HB := Lib.hid hB
      obtain ⟨C, R, rfl, rfl, hc, hr⟩ := grid_nat hB
      obtain ⟨f1, f2, f3, f4⟩ := tab_facts hc hr
      have f5 := tab_square hc hr
      have hE := (grid_edges hc hr).2
      have HL : Hid (cntLL C R = (tabL C R).map Int.ofNat) := if_pos hB
      have HI : Hid (∀ u, LaidG u → Calls Tryd.prog 19 #[.int .i64 C, .int .i64 R] u (GotInts u ((tabL C R).map Int.ofNat))) := fun u hu => by rw [← HL.out]; exact countLeads_any C R u hu
      have HS : Hid (∀ u, Calls Tryd.prog 21 #[.int .i64 C, .int .i64 R] u (GotInts u ((tabL C R).map Int.ofNat))) := fun u => by rw [← HL.out]; exact specCountLeads_any C R u
      generalize tabL C R = T at *
      obtain ⟨E, hE0⟩ : ∃ E, gridE C R = E := ⟨_, rfl⟩
      rw [hE0] at f1 f3 f4 f5 hE
      have hLL : (T.map Int.ofNat).length = E + 1 := by rw [List.length_map, f1]
      have HT : Hid (∀ k, k < E + 1 → (T.map Int.ofNat).getD k 0 = ((T.getD k 0 : Nat) : Int)) := fun k hk => natI_at T (by omega)
      have H2 := Lib.hid f2
      have H5 := Lib.hid f5
      have HSUM := Lib.hid (sT_le f2)
      clear f1 f2 f5 hE0 HL hB
      generalize T.map Int.ofNat = L at *
      have HLL := Lib.hid hLL
      clear hLL
      go_wp2_with fail
      refine (HI.out _ (HLD.on (by assumption))).mono ?_
      intro e2 w2 h2
      obtain ⟨g, c2, rfl, R2⟩ := h2.rowOf BB1 HLL.out
      clear h2 BB1 HI
      go_wp2_with fail
      refine (HS.out _).mono ?_
      intro e3 w3 h3
      obtain ⟨g3, c3, rfl, own3, hb3⟩ := h3.row HLL.out
      have R3 := R2.on _ hb3
      clear R2 hb3 HS h3
      go_wp2_with fail
      refine (sameInts_self _ _ _ _ (E + 1) L _ R3.1.ints own3.ints HLL.out (by omega)).mono ?_
      rintro e4 w4 ⟨rfl, hb4⟩
      have R4 := R3.on _ hb4
      clear R3 hb4 own3
      have hz : (((E : Int) + 1) == 0) = false := by rw [beq_eq_false_iff_ne]; omega
      have wE : IntKind.i64.wrap ((E : Int) + 1 - 1) = (E : Int) := by rw [IntWalk.i64_in _ (by omega)]; omega
      have wR1 : IntKind.i64.wrap ((R : Int) + 1) = (R : Int) + 1 := IntWalk.i64_in _ (by omega)
      go_wp2_with fail
      go_loopw [6, 8] (fun s k wr => ∃ K : Nat, K ≤ E + 1 ∧ k = .int .i64 (K : Nat) ∧ s = .int .i64 (sT T K : Nat) ∧ RowOf w g (E + 1) c2 L wr) (fun _ k _ => E + 1 - (intOf k).toNat)
      case atStart => exact ⟨0, by omega, rfl, rfl, R4⟩
      case round =>
        clear R4
        obtain ⟨K, hK, rfl, rfl, RR⟩ := hrel
        by_cases hlt : K < E + 1
        · have hx := H2.out K (by omega)
          have hs := HSUM.out K (by omega)
          have HX : Hid (sT T (K + 1) = sT T K + T.getD K 0) := rfl
          obtain ⟨x1, -⟩ := RR.1.slot (k := K) hlt
          rw [HT.out K hlt] at x1
          have HKx := Lib.hid (HT.out K hlt)
          have hEK : E - K < E + 1 := by omega
          have wEK : IntKind.i64.wrap ((E : Int) - (K : Int)) = ((E - K : Nat) : Int) := by rw [IntWalk.i64_in _ (by omega)]; omega
          have hy := H2.out (E - K) (by omega)
          have HY := Lib.hid (HT.out (E - K) hEK)
          have hchs := Lib.hid (chsI_nat (n := E) (k := K) (by omega))
          have H5K : Hid (C = R + 1 → T.getD K 0 + T.getD (E - K) 0 = chs E K) := fun h => (H5.out h).1 K hlt
          have iK : (K : Int) < (E : Int) + 1 := by omega
          have iEK : ((E - K : Nat) : Int) < (E : Int) + 1 := by omega
          have iK2 : ¬ (E : Int) < (K : Int) := by omega
          generalize sT T K = s at *
          generalize T.getD K 0 = x at *
          generalize T.getD (E - K) 0 = y at *
          generalize E - K = D at *
          have ws : IntKind.i64.wrap ((s : Int) + (x : Int)) = ((s + x : Nat) : Int) := by rw [IntWalk.i64_in _ (by omega)]; omega
          have wxy : IntKind.i64.wrap ((x : Int) + (y : Int)) = ((x + y : Nat) : Int) := by rw [IntWalk.i64_in _ (by omega)]; omega
          by_cases hsq : C = R + 1
          · have hch := H5K.out hsq
            have isq : ((C : Int) == (R : Int) + 1) = true := by rw [beq_iff_eq]; omega
            rw [← hch] at hchs
            have HCH : Hid (∀ u, Calls Tryd.prog 23 #[.int .i64 E, .int .i64 K] u fun e w' => e = .returned (.int .i64 ((x + y : Nat) : Int)) ∧ Below u.heap.size u w') := fun u => choices_is _ _ _ hchs.out u
            clear hch H5K hchs hsq
            generalize x + y = xy at *
            have isq3 : decide ((C : Int) = (R : Int) + 1) = true := by simpa using isq
            go_wp2_with fail
            refine wp_region_class (RowOf w g (E + 1) c2 L) (by kernel_rfl) (by kernel_rfl) RR.drew ?_
            intro X hX f hf hex
            have k0 : ∀ z, (f z).cell? ⟨g, K, none⟩ = some (.int .i64 (x : Nat)) := fun z => by rw [((hf z).1.slot (k := K) hlt).1, HKx.out]
            have k1 : ∀ z, (f z).cell? ⟨g, D, none⟩ = some (.int .i64 (y : Nat)) := fun z => by rw [((hf z).1.slot (k := D) hEK).1, HY.out]
            repeat (go_big_quiet_step (first
              | (go_at_call 23; with_reducible exact class_of hex (HCH.out _) (hf _).on)))
            refine wpQuiet_nil ?_
            rintro _ ⟨z, rfl⟩
            have RN := hf z
            go_wp2_with fail
            go_roundw
            case rel => first | exact ⟨K + 1, by omega, by go_num, by rw [HX.out]; simp, RN⟩ | exact ⟨_, _, _, _, _, _, _, _, _, _, _, _, _, _, _, _, _, _, _, _, _, _, _, _, ⟨K + 1, by omega, by go_num, by rw [HX.out]; simp, RN⟩, rfl⟩ | exact ⟨_, _, _, _, _, _, _, _, _, _, _, _, _, _, _, _, _, _, _, _, _, _, _, _, _, ⟨K + 1, by omega, by go_num, by rw [HX.out]; simp, RN⟩, rfl⟩ | exact ⟨_, _, _, _, _, _, _, _, _, _, _, _, _, _, _, _, _, _, _, _, _, _, _, _, _, _, ⟨K + 1, by omega, by go_num, by rw [HX.out]; simp, RN⟩, rfl⟩ | exact ⟨_, _, _, _, _, _, _, _, _, _, _, _, _, _, _, _, _, _, _, _, _, _, _, _, _, _, _, ⟨K + 1, by omega, by go_num, by rw [HX.out]; simp, RN⟩, rfl⟩ | exact ⟨_, _, _, _, _, _, _, _, _, _, _, _, _, _, _, _, _, _, _, _, _, _, _, _, _, _, _, _, ⟨K + 1, by omega, by go_num, by rw [HX.out]; simp, RN⟩, rfl⟩ | exact ⟨_, _, _, _, _, _, _, _, _, _, _, _, _, _, _, _, _, _, _, _, _, _, _, _, _, _, _, _, _, ⟨K + 1, by omega, by go_num, by rw [HX.out]; simp, RN⟩, rfl⟩ | exact ⟨_, _, _, _, _, _, _, _, _, _, _, _, _, _, _, _, _, _, _, _, _, _, _, _, _, _, _, _, _, _, ⟨K + 1, by omega, by go_num, by rw [HX.out]; simp, RN⟩, rfl⟩ | exact ⟨_, _, _, _, _, _, _, _, _, _, _, _, _, _, _, _, _, _, _, _, _, _, _, _, _, _, _, _, _, _, _, ⟨K + 1, by omega, by go_num, by rw [HX.out]; simp, RN⟩, rfl⟩ | exact ⟨_, _, _, _, _, _, _, _, _, _, _, _, _, _, _, _, _, _, _, _, _, _, _, _, _, _, _, _, _, _, _, _, ⟨K + 1, by omega, by go_num, by rw [HX.out]; simp, RN⟩, rfl⟩ | exact ⟨_, _, _, _, _, _, _, _, _, _, _, _, _, _, _, _, _, _, _, _, _, _, _, _, _, _, _, _, _, _, _, _, _, ⟨K + 1, by omega, by go_num, by rw [HX.out]; simp, RN⟩, rfl⟩ | exact ⟨_, _, _, _, _, _, _, _, _, _, _, _, _, _, _, _, _, _, _, _, _, _, _, _, _, _, _, _, _, _, _, _, _, _, ⟨K + 1, by omega, by go_num, by rw [HX.out]; simp, RN⟩, rfl⟩ | exact ⟨_, _, _, _, _, _, _, _, _, _, _, _, _, _, _, _, _, _, _, _, _, _, _, _, _, _, _, _, _, _, _, _, _, _, _, ⟨K + 1, by omega, by go_num, by rw [HX.out]; simp, RN⟩, rfl⟩ | exact ⟨_, _, _, _, _, _, _, _, _, _, _, _, _, _, _, _, _, _, _, _, _, _, _, _, _, _, _, _, _, _, _, _, _, _, _, _, ⟨K + 1, by omega, by go_num, by rw [HX.out]; simp, RN⟩, rfl⟩ | exact ⟨_, _, _, _, _, _, _, _, _, _, _, _, _, _, _, _, _, _, _, _, _, _, _, _, _, _, _, _, _, _, _, _, _, _, _, _, _, ⟨K + 1, by omega, by go_num, by rw [HX.out]; simp, RN⟩, rfl⟩
            case measure => simp [intOf]; omega
          · have isq : ((C : Int) == (R : Int) + 1) = false := by rw [beq_eq_false_iff_ne]; omega
            have isq2 : ¬ (C : Int) = (R : Int) + 1 := by omega
            clear H5K hchs
            have isq3 : decide ((C : Int) = (R : Int) + 1) = false := by simpa using isq2
            go_wp2_with fail
            refine wp_region_class (RowOf w g (E + 1) c2 L) (by kernel_rfl) (by kernel_rfl) RR.drew ?_
            intro X hX f hf hex
            repeat (go_big_quiet_step (first | fail))
            refine wpQuiet_nil ?_
            rintro _ ⟨z, rfl⟩
            have RN := hf z
            go_wp2_with fail
            go_roundw
            case rel => first | exact ⟨K + 1, by omega, by go_num, by rw [HX.out]; simp, RN⟩ | exact ⟨_, _, _, _, _, _, _, _, _, _, _, _, _, _, _, _, _, _, _, _, _, _, _, _, ⟨K + 1, by omega, by go_num, by rw [HX.out]; simp, RN⟩, rfl⟩ | exact ⟨_, _, _, _, _, _, _, _, _, _, _, _, _, _, _, _, _, _, _, _, _, _, _, _, _, ⟨K + 1, by omega, by go_num, by rw [HX.out]; simp, RN⟩, rfl⟩ | exact ⟨_, _, _, _, _, _, _, _, _, _, _, _, _, _, _, _, _, _, _, _, _, _, _, _, _, _, ⟨K + 1, by omega, by go_num, by rw [HX.out]; simp, RN⟩, rfl⟩ | exact ⟨_, _, _, _, _, _, _, _, _, _, _, _, _, _, _, _, _, _, _, _, _, _, _, _, _, _, _, ⟨K + 1, by omega, by go_num, by rw [HX.out]; simp, RN⟩, rfl⟩ | exact ⟨_, _, _, _, _, _, _, _, _, _, _, _, _, _, _, _, _, _, _, _, _, _, _, _, _, _, _, _, ⟨K + 1, by omega, by go_num, by rw [HX.out]; simp, RN⟩, rfl⟩ | exact ⟨_, _, _, _, _, _, _, _, _, _, _, _, _, _, _, _, _, _, _, _, _, _, _, _, _, _, _, _, _, ⟨K + 1, by omega, by go_num, by rw [HX.out]; simp, RN⟩, rfl⟩ | exact ⟨_, _, _, _, _, _, _, _, _, _, _, _, _, _, _, _, _, _, _, _, _, _, _, _, _, _, _, _, _, _, ⟨K + 1, by omega, by go_num, by rw [HX.out]; simp, RN⟩, rfl⟩ | exact ⟨_, _, _, _, _, _, _, _, _, _, _, _, _, _, _, _, _, _, _, _, _, _, _, _, _, _, _, _, _, _, _, ⟨K + 1, by omega, by go_num, by rw [HX.out]; simp, RN⟩, rfl⟩ | exact ⟨_, _, _, _, _, _, _, _, _, _, _, _, _, _, _, _, _, _, _, _, _, _, _, _, _, _, _, _, _, _, _, _, ⟨K + 1, by omega, by go_num, by rw [HX.out]; simp, RN⟩, rfl⟩ | exact ⟨_, _, _, _, _, _, _, _, _, _, _, _, _, _, _, _, _, _, _, _, _, _, _, _, _, _, _, _, _, _, _, _, _, ⟨K + 1, by omega, by go_num, by rw [HX.out]; simp, RN⟩, rfl⟩ | exact ⟨_, _, _, _, _, _, _, _, _, _, _, _, _, _, _, _, _, _, _, _, _, _, _, _, _, _, _, _, _, _, _, _, _, _, ⟨K + 1, by omega, by go_num, by rw [HX.out]; simp, RN⟩, rfl⟩ | exact ⟨_, _, _, _, _, _, _, _, _, _, _, _, _, _, _, _, _, _, _, _, _, _, _, _, _, _, _, _, _, _, _, _, _, _, _, ⟨K + 1, by omega, by go_num, by rw [HX.out]; simp, RN⟩, rfl⟩ | exact ⟨_, _, _, _, _, _, _, _, _, _, _, _, _, _, _, _, _, _, _, _, _, _, _, _, _, _, _, _, _, _, _, _, _, _, _, _, ⟨K + 1, by omega, by go_num, by rw [HX.out]; simp, RN⟩, rfl⟩ | exact ⟨_, _, _, _, _, _, _, _, _, _, _, _, _, _, _, _, _, _, _, _, _, _, _, _, _, _, _, _, _, _, _, _, _, _, _, _, _, ⟨K + 1, by omega, by go_num, by rw [HX.out]; simp, RN⟩, rfl⟩
            case measure => simp [intOf]; omega
        · obtain rfl : K = E + 1 := by omega
          have BB := RR.2
          have iKE : (E : Int) < ((E + 1 : Nat) : Int) := by omega
          by_cases hsq : C = R + 1
          · have h2 := (H5.out hsq).2
            obtain ⟨P, hP, p1, p2, hp3, hp4⟩ := pow_named12 hE.2
            rw [hP] at h2
            have isq : ((C : Int) == (R : Int) + 1) = true := by rw [beq_iff_eq]; omega
            have isq4 : ((C : Int) != (R : Int) + 1) = false := by rw [bne, isq]; rfl
            generalize sT T (E + 1) = s at *
            have w2s : IntKind.i64.wrap (2 * (s : Int)) = (P : Int) := by rw [IntWalk.i64_in _ (by omega)]; omega
            clear hP h2 RR hsq
            go_wp2_with fail
            go_returns
            exact ⟨by first | rfl | simp, BB⟩
          · have isq2 : ¬ (C : Int) = (R : Int) + 1 := by omega
            have isq4 : ((C : Int) != (R : Int) + 1) = true := by simp [isq2]
            clear RR hsq
            go_wp2_with fail
            go_returns
            exact ⟨by first | rfl | simp, BB⟩

namespace fnCountLeads
open Go.ChangeShapes Go.WideShapes Go.ChangeAt Go.RowKit Go.Deep Go.Joins
set_option linter.unusedVariables false
set_option maxRecDepth 100000 in
theorem lifted (os : Os) (started : os.Started) (H : Type) (enc : TypeId × Value → H) :
    ReturnsInHanded {} Tryd.checked os 5 .any (fun w args => (Rows.fnCountLeadsSpec.pre enc Tryd.prog Tryd.f5 Rows.fnCountLeadsRow.domain false w args ∧ laidMetH Tryd.prog Rows.fnCountLeadsRow.laid w) ∧ sizedMet enc Tryd.prog Tryd.f5 (OpenSpec.ofChange Rows.fnCountLeadsSpec) false w args)
      (Rows.fnCountLeadsSpec.post enc Tryd.prog Tryd.f5 false true false false) := by
  refine returnsInHanded_of_change_and (C := Tryd.checked) (X := fun w _ => laidMetH Tryd.prog Rows.fnCountLeadsRow.laid w) (fun _ _ _ hh h => h.of_heap hh) own started (by kernel_rfl) Tryd.func5
    (ChangeSpec.witness_shaped (enc := enc) (C := Tryd.checked) (os := os) (X := fun w _ => laidMetH Tryd.prog Rows.fnCountLeadsRow.laid w) false (World.laidAll Tryd.prog os Rows.fnCountLeadsRow.laid) #[.slice none 0 0] 8 (World.laidAll_os _ _ _)
      (World.shaped_of_ZipB (by kernel_rfl) (by kernel_rfl)) (by kernel_rfl) (by kernel_rfl) (by kernel_rfl)
      (by rw [MakeChecks.laidMetH_plain _ _ _ (by kernel_rfl)]; exact laidMet_laidAll _ (by kernel_rfl) (by kernel_rfl))) ?_
  intro W base args ds gs before hval0 hW hcnd _ hL _
  rw [MakeChecks.laidMetH_plain _ _ _ (by kernel_rfl)] at hL
  have hM := hL
  have HLD : LaidG W := ⟨laidS_of hM (by simp [Rows.fnCountLeadsRow]), laidZ_of hM (by simp [Rows.fnCountLeadsRow])⟩
  have hval : ∀ (j : Nat) t v, Tryd.f5.params[j]? = some t → args[j]? = some v → Value.okWide Tryd.prog W .any base t v := hval0
  have hW' := hW
  obtain ⟨p, q, hA0, hV, rfl, hfz, hnd⟩ := hW
  have hA : DataW.TrodAll enc Tryd.prog W 0 (fun _ => true) true Tryd.f5.params.toList args.toList ds p := hA0
  rw [Tryd.params5] at hA hval
  obtain ⟨v0, vs0, d0, ds0, p0, q0, hargs, rfl, rfl, h0, r0⟩ := trodAll_cons hA
  obtain ⟨rfl, rfl, rfl⟩ := trodAll_nil r0
  obtain rfl : args = #[v0] := by cases args; simp_all
  obtain ⟨g1, rfl⟩ : ∃ g1, gs = [g1] := by obtain ⟨_, _, _, _, d, _, h, _⟩ := trodVars_one hV; exact ⟨d, h⟩
  have k0 := h0
  have lt0 : ∀ x ∈ p0, x.block < W.heap.size := by obtain ⟨m, hm⟩ := k0; exact DataW.trod_lt m _ _ _ hm
  obtain ⟨A0, c0, bs0, rfl, hb0, hl0⟩ := open_bytes (hval 0 22 v0 rfl rfl) h0
  clear hA0 hval0
  refine (countLeads_law A0 c0 bs0 W hb0 hl0 HLD).mono fun e W' ⟨he, bel⟩ => ?_
  subst he
  exact ⟨_, rfl, _, _, _, _, _, _, hW', trodAll_mk1 (shut_bool Tryd.underlying4 _), (trodAll_cons_mk (Below.trod laidOut (by kernel_rfl) (of_decide_eq_true (by kernel_rfl)) k0 bel lt0) trodAll_mk0), Below.trodVars laidOut bel (by kernel_rfl) hV, bel.frame _, fun h => by cases h⟩

theorem row_holds : Rows.FnCountLeadsSaid :=
  OpenClaim.holds_of_wide 5 Tryd.f5 rfl rfl rfl rfl rfl rfl rfl ⟨rfl, rfl, rfl, rfl, rfl⟩ rfl rfl rfl rfl rfl (by kernel_rfl) Tryd.func5 (by kernel_rfl)
    (of_decide_eq_true (by kernel_rfl)) (by unfold Func.isWrapper; first | (rw [if_pos (by decide +kernel)]; kernel_rfl) | (rw [if_neg (by decide +kernel)]; exact ⟨rfl, rfl⟩))
    (fun os started H enc _ => lifted os started H enc)
theorem holds : Rows.FnCountLeadsCardSaid :=
  Claim7.holds_tied_plain_at .later [] Rows.fnCountLeadsCard.laidKinds true Rows.fnCountLeadsCard.stood.harness false row_holds (fun _ h => by cases h) (by kernel_rfl) (fun _ h => by cases h) fnCountLeads_row_tie rfl ⟨rfl, rfl⟩ (by kernel_rfl) rfl
    (fun f fn hf hfn => by
      obtain rfl : f = 5 := Option.some.inj ((show Tryd.prog.funcNamed "loop.example/failingnets/laws.FnCountLeads" = some 5 by kernel_rfl).symm.trans hf) |>.symm
      obtain rfl : fn = Tryd.f5 := (Option.some.inj (Tryd.func5.symm.trans hfn)).symm
      exact ⟨by kernel_rfl, fun j t ht => by
        rw [Tryd.params5] at ht
        have hm : t ∈ [22] := by simpa using Array.mem_of_getElem? ht
        have hall : ([22].all fun u => !Tryd.prog.wantsStandIn u) = true := by kernel_rfl
        exact (show Tryd.prog.wantsStandIn t = false by simpa using List.all_eq_true.1 hall t hm)⟩)
    (by kernel_rfl)
end fnCountLeads

end Go.Proofs.YtcmomghlepmogaaDoor
