/- The law FnTouchOk holds of every code: it holds the other way exactly if it does, and not of a cell and itself; and for at most six cells. -/
import Derived.Test.YtcmomghlepmogabDoorDoor
import Derived.Test.YtcmomghlepmogabDoorTie
import Derived.Test.YtcmomghlepmogabDoorCards
import Derived.Test.YtcmomghlepmogabDoorBytes
import Derived.Test.YtcmomghlepmogabDoorDraw7
import Derived.Test.YtcmomghlepmogabDoorIs7
namespace Go.Proofs.YtcmomghlepmogabDoor
open Go.RowKit
set_option maxRecDepth 100000

theorem touch_fin : ∀ c, c < 5 → ∀ r, r < 4 → ∀ a, a < c * r → (∀ b, b < c * r → touchN c a b = touchN c b a) ∧ touchN c a a = false ∧ ((List.range (c * r)).countP fun k => touchN c a k) ≤ 6 := by decide +kernel
theorem touchI_swap (a b c r : Int) : touchI b a c r = touchI a b c r := by
  unfold touchI
  cases hB : boardB c r with
  | false => rfl
  | true =>
    obtain ⟨C, R, rfl, rfl, hc, hr⟩ := board_nat hB
    rw [show ((C : Nat) : Int) * ((R : Nat) : Int) = ((C * R : Nat) : Int) by rw [Int.natCast_mul]]
    cases hA : inB a ((C * R : Nat) : Int) <;> cases hBB : inB b ((C * R : Nat) : Int) <;> simp
    obtain ⟨A', rfl, hA'⟩ := inB_nat hA
    obtain ⟨B', rfl, hB'⟩ := inB_nat hBB
    exact ((touch_fin C (by omega) R (by omega) A' hA').1 B' hB').symm
theorem touchI_self (a c r : Int) : touchI a a c r = false := by
  unfold touchI
  cases hB : boardB c r with
  | false => rfl
  | true =>
    obtain ⟨C, R, rfl, rfl, hc, hr⟩ := board_nat hB
    rw [show ((C : Nat) : Int) * ((R : Nat) : Int) = ((C * R : Nat) : Int) by rw [Int.natCast_mul]]
    cases hA : inB a ((C * R : Nat) : Int) <;> simp
    obtain ⟨A', rfl, hA'⟩ := inB_nat hA
    exact (touch_fin C (by omega) R (by omega) A' hA').2.1
/-- How many of the first so many cells it touches. -/
def tchT (a c r : Int) (k : Nat) : Nat := (List.range k).countP fun j => touchI a (j : Nat) c r
theorem tchT_succ (a c r : Int) (k : Nat) : tchT a c r (k + 1) = tchT a c r k + if touchI a (k : Nat) c r = true then 1 else 0 := by
  unfold tchT
  rw [List.range_succ, List.countP_append]
  congr 1
  by_cases h : touchI a (k : Nat) c r = true <;> simp [h]
theorem tchT_le (a c r : Int) (k : Nat) : tchT a c r k ≤ k := by
  have := List.countP_le_length (p := fun j => touchI a ((j : Nat) : Int) c r) (l := List.range k)
  rwa [List.length_range] at this
theorem tchT_six (a c r : Int) : tchT a c r 12 ≤ 6 := by
  cases hB : boardB c r with
  | false =>
    have : tchT a c r 12 = 0 := by
      unfold tchT
      rw [List.countP_eq_zero]
      intro x _ hx
      simp [touchI, hB] at hx
    omega
  | true =>
    obtain ⟨C, R, rfl, rfl, hc, hr⟩ := board_nat hB
    obtain ⟨n, hn, n1, n12, hnI, -⟩ := prod_small hc hr
    cases hA : inB a ((n : Nat) : Int) with
    | false =>
      have : tchT a C R 12 = 0 := by
        unfold tchT
        rw [List.countP_eq_zero]
        intro x _ hx
        simp [touchI, hnI, hA] at hx
      omega
    | true =>
      obtain ⟨A', rfl, hA'⟩ := inB_nat hA
      have key : ∀ m, tchT (A' : Nat) C R (n + m) ≤ ((List.range n).countP fun k => touchN C A' k) := fun m => by
        induction m with
        | zero =>
          unfold tchT
          refine List.countP_mono_left fun x hx h => ?_
          simp only [touchI, Bool.and_eq_true] at h
          exact h.2.2.2
        | succ m ih =>
          rw [← Nat.add_assoc, tchT_succ, if_neg]
          · exact ih
          · intro h
            simp only [touchI, Bool.and_eq_true, hnI, inB, decide_eq_true_eq] at h
            omega
      have h1 := key (12 - n)
      rw [show n + (12 - n) = 12 by omega] at h1
      have h2 := (touch_fin C (by omega) R (by omega) A' (by rw [hn]; exact hA')).2.2
      rw [hn] at h2
      omega

set_option maxHeartbeats 4000000 in
theorem touchOk_law (A : Option Addr) (cap l : Nat) (w : World) (hb : BytesIn w w.heap.size A l) (hc : l ≤ cap) (HLD : LaidT w) :
    Calls Tryd.prog 3 #[.slice A l cap] w fun e w' => e = .returned (.bool true) ∧ Below w.heap.size w w' := by
  by_cases hbig : 1048576 < l
  · go_enter Tryd.func3, Tryd.ntmps3
    go_wp2
    go_returns
    exact ⟨rfl, Below.refl _ _⟩
  · have hl : l ≤ 1048576 := by omega
    clear hbig
    go_enter Tryd.func3, Tryd.ntmps3
    go_wp2_with fail
    refine (drawTouchOk_any _ _ _ _ hb hl hc).mono ?_
    rintro e1 w1 ⟨a, b, c, r, rfl, j1, j2, j3, j4, k1, k2, k3, k4, BB1⟩
    clear hb hl hc
    obtain ⟨v, hv⟩ : ∃ v, touchI a b c r = v := ⟨_, rfl⟩
    have HV := Lib.hid hv
    have HW : Hid (touchI b a c r = v) := by rw [Hid, touchI_swap]; exact hv
    have H0 := Lib.hid (touchI_self a c r)
    have H6 := Lib.hid (tchT_six a c r)
    clear hv
    cases v
    all_goals
      go_wp2_with fail
      refine (touchOk_is _ _ _ _ _ HV.out _ (HLD.on (by assumption))).mono ?_
      rintro e2 w2 ⟨rfl, hb2⟩
      have BB2 := BB1.trans (hb2.mono BB1.size)
      clear hb2 BB1
      go_wp2_with fail
      refine (sTouchOk_is _ _ _ _ _ HV.out _).mono ?_
      rintro e3 w3 ⟨rfl, hb3⟩
      have BB3 := BB2.trans (hb3.mono BB2.size)
      clear hb3 BB2
      go_wp2_with fail
      go_loopw [8, 9] (fun n k wr => ∃ K : Nat, K ≤ 12 ∧ k = .int .i64 (K : Nat) ∧ n = .int .i64 (tchT a c r K : Nat) ∧ Below w.heap.size w wr) (fun _ k _ => 12 - (intOf k).toNat)
      case atStart => exact ⟨0, by omega, rfl, rfl, BB3⟩
      case round =>
        clear BB3
        obtain ⟨K, hK, rfl, rfl, BBr⟩ := hrel
        by_cases hlt : K < 12
        · have hle := tchT_le a c r K
          have HX := Lib.hid (tchT_succ a c r K)
          obtain ⟨u, hu⟩ : ∃ u, touchI a (K : Nat) c r = u := ⟨_, rfl⟩
          have HK := Lib.hid hu
          rw [hu] at HX
          clear hu
          generalize tchT a c r K = y at *
          have wy : IntKind.i64.wrap ((y : Int) + 1) = ((y + 1 : Nat) : Int) := by rw [IntWalk.i64_in _ (by omega)]; omega
          cases u with
          | true =>
            rw [if_pos rfl] at HX
            go_wp2_with fail
            refine (touchOk_is _ _ _ _ _ HK.out _ (HLD.on (by assumption))).mono ?_
            rintro e31 w31 ⟨rfl, hb31⟩
            have BB31 := BBr.trans (hb31.mono BBr.size)
            clear hb31 BBr
            go_wp2_with fail
            go_roundw
            case rel => exact ⟨K + 1, by omega, by go_num, by rw [HX.out]; simp, BB31⟩
            case measure => simp [intOf]; omega
          | false =>
            rw [if_neg (by simp), Nat.add_zero] at HX
            go_wp2_with fail
            refine (touchOk_is _ _ _ _ _ HK.out _ (HLD.on (by assumption))).mono ?_
            rintro e31 w31 ⟨rfl, hb31⟩
            have BB31 := BBr.trans (hb31.mono BBr.size)
            clear hb31 BBr
            go_wp2_with fail
            go_roundw
            case rel => exact ⟨K + 1, by omega, by go_num, by rw [HX.out]; simp, BB31⟩
            case measure => simp [intOf]; omega
        · obtain rfl : K = 12 := by omega
          have h6 := H6.out
          generalize tchT a c r 12 = y at *
          have i6 : (y : Int) ≤ 6 := by omega
          go_wp2_with fail
          refine (touchOk_is _ _ _ _ _ HW.out _ (HLD.on (by assumption))).mono ?_
          rintro e41 w41 ⟨rfl, hb41⟩
          have BB41 := BBr.trans (hb41.mono BBr.size)
          clear hb41 BBr
          go_wp2_with fail
          refine (touchOk_is _ _ _ _ _ H0.out _ (HLD.on (by assumption))).mono ?_
          rintro e42 w42 ⟨rfl, hb42⟩
          have BB42 := BB41.trans (hb42.mono BB41.size)
          clear hb42 BB41
          go_wp2_with fail
          refine (alive_any _).mono ?_
          rintro e43 w43 ⟨rfl, hb43⟩
          have BB43 := BB42.trans (hb43.mono BB42.size)
          clear hb43 BB42
          go_wp2_with fail
          go_returns
          exact ⟨by first | rfl | simp, BB43⟩

namespace fnTouchOk
open Go.ChangeShapes Go.WideShapes Go.ChangeAt Go.RowKit Go.Deep Go.Joins
set_option linter.unusedVariables false
set_option maxRecDepth 100000 in
theorem lifted (os : Os) (started : os.Started) (H : Type) (enc : TypeId × Value → H) :
    ReturnsInHanded {} Tryd.checked os 3 .any (fun w args => (Rows.fnTouchOkSpec.pre enc Tryd.prog Tryd.f3 Rows.fnTouchOkRow.domain false w args ∧ laidMetH Tryd.prog Rows.fnTouchOkRow.laid w) ∧ sizedMet enc Tryd.prog Tryd.f3 (OpenSpec.ofChange Rows.fnTouchOkSpec) false w args)
      (Rows.fnTouchOkSpec.post enc Tryd.prog Tryd.f3 false true false false) := by
  refine returnsInHanded_of_change_and (C := Tryd.checked) (X := fun w _ => laidMetH Tryd.prog Rows.fnTouchOkRow.laid w) (fun _ _ _ hh h => h.of_heap hh) own started (by kernel_rfl) Tryd.func3
    (ChangeSpec.witness_shaped (enc := enc) (C := Tryd.checked) (os := os) (X := fun w _ => laidMetH Tryd.prog Rows.fnTouchOkRow.laid w) false (World.laidAll Tryd.prog os Rows.fnTouchOkRow.laid) #[.slice none 0 0] 8 (World.laidAll_os _ _ _)
      (World.shaped_of_ZipB (by kernel_rfl) (by kernel_rfl)) (by kernel_rfl) (by kernel_rfl) (by kernel_rfl)
      (by rw [MakeChecks.laidMetH_plain _ _ _ (by kernel_rfl)]; exact laidMet_laidAll _ (by kernel_rfl) (by kernel_rfl))) ?_
  intro W base args ds gs before hval0 hW hcnd _ hL _
  rw [MakeChecks.laidMetH_plain _ _ _ (by kernel_rfl)] at hL
  have hM := hL
  have HLD : LaidT W := laidT_of hM (by simp [Rows.fnTouchOkRow])
  have hval : ∀ (j : Nat) t v, Tryd.f3.params[j]? = some t → args[j]? = some v → Value.okWide Tryd.prog W .any base t v := hval0
  have hW' := hW
  obtain ⟨p, q, hA0, hV, rfl, hfz, hnd⟩ := hW
  have hA : DataW.TrodAll enc Tryd.prog W 0 (fun _ => true) true Tryd.f3.params.toList args.toList ds p := hA0
  rw [Tryd.params3] at hA hval
  obtain ⟨v0, vs0, d0, ds0, p0, q0, hargs, rfl, rfl, h0, r0⟩ := trodAll_cons hA
  obtain ⟨rfl, rfl, rfl⟩ := trodAll_nil r0
  obtain rfl : args = #[v0] := by cases args; simp_all
  obtain ⟨g1, rfl⟩ : ∃ g1, gs = [g1] := by obtain ⟨_, _, _, _, d, _, h, _⟩ := trodVars_one hV; exact ⟨d, h⟩
  have k0 := h0
  have lt0 : ∀ x ∈ p0, x.block < W.heap.size := by obtain ⟨m, hm⟩ := k0; exact DataW.trod_lt m _ _ _ hm
  obtain ⟨A0, c0, bs0, rfl, hb0, hl0⟩ := open_bytes (hval 0 22 v0 rfl rfl) h0
  clear hA0 hval0
  refine (touchOk_law A0 c0 bs0 W hb0 hl0 HLD).mono fun e W' ⟨he, bel⟩ => ?_
  subst he
  exact ⟨_, rfl, _, _, _, _, _, _, hW', trodAll_mk1 (shut_bool Tryd.underlying4 _), (trodAll_cons_mk (Below.trod laidOut (by kernel_rfl) (of_decide_eq_true (by kernel_rfl)) k0 bel lt0) trodAll_mk0), Below.trodVars laidOut bel (by kernel_rfl) hV, bel.frame _, fun h => by cases h⟩

theorem row_holds : Rows.FnTouchOkSaid :=
  OpenClaim.holds_of_wide 3 Tryd.f3 rfl rfl rfl rfl rfl rfl rfl ⟨rfl, rfl, rfl, rfl, rfl⟩ rfl rfl rfl rfl rfl (by kernel_rfl) Tryd.func3 (by kernel_rfl)
    (of_decide_eq_true (by kernel_rfl)) (by unfold Func.isWrapper; first | (rw [if_pos (by decide +kernel)]; kernel_rfl) | (rw [if_neg (by decide +kernel)]; exact ⟨rfl, rfl⟩))
    (fun os started H enc _ => lifted os started H enc)
theorem holds : Rows.FnTouchOkCardSaid :=
  Claim7.holds_tied_plain_at .later [] Rows.fnTouchOkCard.laidKinds true Rows.fnTouchOkCard.stood.harness false row_holds (fun _ h => by cases h) (by kernel_rfl) (fun _ h => by cases h) fnTouchOk_row_tie rfl ⟨rfl, rfl⟩ (by kernel_rfl) rfl
    (fun f fn hf hfn => by
      obtain rfl : f = 3 := Option.some.inj ((show Tryd.prog.funcNamed "loop.example/failingnets/laws.FnTouchOk" = some 3 by kernel_rfl).symm.trans hf) |>.symm
      obtain rfl : fn = Tryd.f3 := (Option.some.inj (Tryd.func3.symm.trans hfn)).symm
      exact ⟨by kernel_rfl, fun j t ht => by
        rw [Tryd.params3] at ht
        have hm : t ∈ [22] := by simpa using Array.mem_of_getElem? ht
        have hall : ([22].all fun u => !Tryd.prog.wantsStandIn u) = true := by kernel_rfl
        exact (show Tryd.prog.wantsStandIn t = false by simpa using List.all_eq_true.1 hall t hm)⟩)
    (by kernel_rfl)
end fnTouchOk

end Go.Proofs.YtcmomghlepmogabDoor
