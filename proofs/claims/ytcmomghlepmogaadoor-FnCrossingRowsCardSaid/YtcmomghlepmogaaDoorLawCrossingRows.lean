/- The law FnCrossingRows holds of every code: a grid with a column more has no more states that lead across, times 2 taken as often as there are edges more; and so have boards. -/
import Derived.Test.YtcmomghlepmogaaDoorDoor
import Derived.Test.YtcmomghlepmogaaDoorTie
import Derived.Test.YtcmomghlepmogaaDoorCards
import Derived.Test.YtcmomghlepmogaaDoorBytes
import Derived.Test.YtcmomghlepmogaaDoorDraw7
import Derived.Test.YtcmomghlepmogaaDoorSum7
namespace Go.Proofs.YtcmomghlepmogaaDoor
open Go.RowKit
set_option maxRecDepth 100000

set_option maxHeartbeats 4000000 in
theorem crossingRows_law (A : Option Addr) (cap l : Nat) (w : World) (hb : BytesIn w w.heap.size A l) (hc : l ≤ cap) (HLD : LaidA w) :
    Calls Tryd.prog 9 #[.slice A l cap] w fun e w' => e = .returned (.bool true) ∧ Below w.heap.size w w' := by
  by_cases hbig : 1048576 < l
  · go_enter Tryd.func9, Tryd.ntmps9
    go_wp2
    go_returns
    exact ⟨rfl, Below.refl _ _⟩
  · have hl : l ≤ 1048576 := by omega
    clear hbig
    go_enter Tryd.func9, Tryd.ntmps9
    go_wp2_with fail
    refine (drawCountLeads_any _ _ _ _ hb hl hc).mono ?_
    rintro e1 w1 ⟨c, r, rfl, k1, k2, k3, k4, BB1⟩
    cases hB : gridOkB c r with
    | false =>
      have HB := Lib.hid hB
      clear hB
      go_wp2_with fail
      refine (sGridOk_is _ _ _ HB.out _).mono ?_
      rintro e2 w2 ⟨rfl, hb2⟩
      have BB2 := BB1.trans (hb2.mono BB1.size)
      clear hb2 BB1
      go_wp2_with fail
      refine (drawCountDark_any _ _ _ _ ((hb.keep fun p hp => BB2.cell hp).more BB2.size) hl hc).mono ?_
      rintro e9 w9 ⟨c9, r9, rfl, j1, j2, j3, j4, hb9⟩
      have BB9 := BB2.trans (hb9.mono BB2.size)
      clear hb9 BB2 hb
      have wc9 : IntKind.i64.wrap (c9 - 1) = c9 - 1 := IntWalk.i64_in _ (by omega)
      cases hB9 : boardB c9 r9 with
      | false =>
        have HV : Hid (cntDI c9 r9 = -1) := if_neg (by rw [hB9]; simp)
        have HW := Lib.hid (rfl : cntDI (c9 - 1) r9 = cntDI (c9 - 1) r9)
        generalize hz : cntDI (c9 - 1) r9 = z at HW
        have HZ := Lib.hid hz
        clear hB9 HW hz
        go_wp2_with fail
        refine (countDark_is _ _ _ HV.out _ (HLD.on (by assumption)).b).mono ?_
        rintro e11 w11 ⟨rfl, hb11⟩
        have BB11 := BB9.trans (hb11.mono BB9.size)
        clear hb11 BB9
        go_wp2_with fail
        refine (countDark_is _ _ _ HZ.out _ (HLD.on (by assumption)).b).mono ?_
        rintro e12 w12 ⟨rfl, hb12⟩
        have BB12 := BB11.trans (hb12.mono BB11.size)
        clear hb12 BB11
        go_wp2_with fail
        refine (alive_any _).mono ?_
        rintro e13 w13 ⟨rfl, hb13⟩
        have BB13 := BB12.trans (hb13.mono BB12.size)
        clear hb13 BB12
        go_wp2_with fail
        go_returns
        exact ⟨by first | rfl | simp, BB13⟩
      | true =>
        have hBB := boardB_iff.1 hB9
        clear hB9 wc9 j1 j2 j3 j4
        rcases (show c9 = 1 ∨ c9 = 2 ∨ c9 = 3 ∨ c9 = 4 by omega) with rfl | rfl | rfl | rfl <;> rcases (show r9 = 1 ∨ r9 = 2 ∨ r9 = 3 by omega) with rfl | rfl | rfl <;> clear hBB
        · have HV : Hid (cntDI 1 1 = 1) := by rw [Hid]; decide
          have HW : Hid (cntDI 0 1 = -1) := by rw [Hid]; decide
          go_wp2_with fail
          refine (countDark_is _ _ _ HV.out _ (HLD.on (by assumption)).b).mono ?_
          rintro e11 w11 ⟨rfl, hb11⟩
          have BB11 := BB9.trans (hb11.mono BB9.size)
          clear hb11 BB9
          go_wp2_with fail
          refine (countDark_is _ _ _ HW.out _ (HLD.on (by assumption)).b).mono ?_
          rintro e12 w12 ⟨rfl, hb12⟩
          have BB12 := BB11.trans (hb12.mono BB11.size)
          clear hb12 BB11
          go_wp2_with fail
          refine (alive_any _).mono ?_
          rintro e13 w13 ⟨rfl, hb13⟩
          have BB13 := BB12.trans (hb13.mono BB12.size)
          clear hb13 BB12
          go_wp2_with fail
          go_returns
          exact ⟨by first | rfl | simp, BB13⟩
        · have HV : Hid (cntDI 1 2 = 3) := by rw [Hid]; decide
          have HW : Hid (cntDI 0 2 = -1) := by rw [Hid]; decide
          go_wp2_with fail
          refine (countDark_is _ _ _ HV.out _ (HLD.on (by assumption)).b).mono ?_
          rintro e11 w11 ⟨rfl, hb11⟩
          have BB11 := BB9.trans (hb11.mono BB9.size)
          clear hb11 BB9
          go_wp2_with fail
          refine (countDark_is _ _ _ HW.out _ (HLD.on (by assumption)).b).mono ?_
          rintro e12 w12 ⟨rfl, hb12⟩
          have BB12 := BB11.trans (hb12.mono BB11.size)
          clear hb12 BB11
          go_wp2_with fail
          refine (alive_any _).mono ?_
          rintro e13 w13 ⟨rfl, hb13⟩
          have BB13 := BB12.trans (hb13.mono BB12.size)
          clear hb13 BB12
          go_wp2_with fail
          go_returns
          exact ⟨by first | rfl | simp, BB13⟩
        · have HV : Hid (cntDI 1 3 = 7) := by rw [Hid]; decide
          have HW : Hid (cntDI 0 3 = -1) := by rw [Hid]; decide
          go_wp2_with fail
          refine (countDark_is _ _ _ HV.out _ (HLD.on (by assumption)).b).mono ?_
          rintro e11 w11 ⟨rfl, hb11⟩
          have BB11 := BB9.trans (hb11.mono BB9.size)
          clear hb11 BB9
          go_wp2_with fail
          refine (countDark_is _ _ _ HW.out _ (HLD.on (by assumption)).b).mono ?_
          rintro e12 w12 ⟨rfl, hb12⟩
          have BB12 := BB11.trans (hb12.mono BB11.size)
          clear hb12 BB11
          go_wp2_with fail
          refine (alive_any _).mono ?_
          rintro e13 w13 ⟨rfl, hb13⟩
          have BB13 := BB12.trans (hb13.mono BB12.size)
          clear hb13 BB12
          go_wp2_with fail
          go_returns
          exact ⟨by first | rfl | simp, BB13⟩
        · have HV : Hid (cntDI 2 1 = 1) := by rw [Hid]; decide
          have HW : Hid (cntDI 1 1 = 1) := by rw [Hid]; decide
          go_wp2_with fail
          refine (countDark_is _ _ _ HV.out _ (HLD.on (by assumption)).b).mono ?_
          rintro e11 w11 ⟨rfl, hb11⟩
          have BB11 := BB9.trans (hb11.mono BB9.size)
          clear hb11 BB9
          go_wp2_with fail
          refine (countDark_is _ _ _ HW.out _ (HLD.on (by assumption)).b).mono ?_
          rintro e12 w12 ⟨rfl, hb12⟩
          have BB12 := BB11.trans (hb12.mono BB11.size)
          clear hb12 BB11
          go_wp2_with fail
          refine (alive_any _).mono ?_
          rintro e13 w13 ⟨rfl, hb13⟩
          have BB13 := BB12.trans (hb13.mono BB12.size)
          clear hb13 BB12
          go_wp2_with fail
          go_returns
          exact ⟨by first | rfl | simp, BB13⟩
        · have HV : Hid (cntDI 2 2 = 8) := by rw [Hid]; decide
          have HW : Hid (cntDI 1 2 = 3) := by rw [Hid]; decide
          go_wp2_with fail
          refine (countDark_is _ _ _ HV.out _ (HLD.on (by assumption)).b).mono ?_
          rintro e11 w11 ⟨rfl, hb11⟩
          have BB11 := BB9.trans (hb11.mono BB9.size)
          clear hb11 BB9
          go_wp2_with fail
          refine (countDark_is _ _ _ HW.out _ (HLD.on (by assumption)).b).mono ?_
          rintro e12 w12 ⟨rfl, hb12⟩
          have BB12 := BB11.trans (hb12.mono BB11.size)
          clear hb12 BB11
          go_wp2_with fail
          refine (alive_any _).mono ?_
          rintro e13 w13 ⟨rfl, hb13⟩
          have BB13 := BB12.trans (hb13.mono BB12.size)
          clear hb13 BB12
          go_wp2_with fail
          go_returns
          exact ⟨by first | rfl | simp, BB13⟩
        · have HV : Hid (cntDI 2 3 = 43) := by rw [Hid]; decide
          have HW : Hid (cntDI 1 3 = 7) := by rw [Hid]; decide
          go_wp2_with fail
          refine (countDark_is _ _ _ HV.out _ (HLD.on (by assumption)).b).mono ?_
          rintro e11 w11 ⟨rfl, hb11⟩
          have BB11 := BB9.trans (hb11.mono BB9.size)
          clear hb11 BB9
          go_wp2_with fail
          refine (countDark_is _ _ _ HW.out _ (HLD.on (by assumption)).b).mono ?_
          rintro e12 w12 ⟨rfl, hb12⟩
          have BB12 := BB11.trans (hb12.mono BB11.size)
          clear hb12 BB11
          go_wp2_with fail
          refine (alive_any _).mono ?_
          rintro e13 w13 ⟨rfl, hb13⟩
          have BB13 := BB12.trans (hb13.mono BB12.size)
          clear hb13 BB12
          go_wp2_with fail
          go_returns
          exact ⟨by first | rfl | simp, BB13⟩
        · have HV : Hid (cntDI 3 1 = 1) := by rw [Hid]; decide
          have HW : Hid (cntDI 2 1 = 1) := by rw [Hid]; decide
          go_wp2_with fail
          refine (countDark_is _ _ _ HV.out _ (HLD.on (by assumption)).b).mono ?_
          rintro e11 w11 ⟨rfl, hb11⟩
          have BB11 := BB9.trans (hb11.mono BB9.size)
          clear hb11 BB9
          go_wp2_with fail
          refine (countDark_is _ _ _ HW.out _ (HLD.on (by assumption)).b).mono ?_
          rintro e12 w12 ⟨rfl, hb12⟩
          have BB12 := BB11.trans (hb12.mono BB11.size)
          clear hb12 BB11
          go_wp2_with fail
          refine (alive_any _).mono ?_
          rintro e13 w13 ⟨rfl, hb13⟩
          have BB13 := BB12.trans (hb13.mono BB12.size)
          clear hb13 BB12
          go_wp2_with fail
          go_returns
          exact ⟨by first | rfl | simp, BB13⟩
        · have HV : Hid (cntDI 3 2 = 21) := by rw [Hid]; decide
          have HW : Hid (cntDI 2 2 = 8) := by rw [Hid]; decide
          go_wp2_with fail
          refine (countDark_is _ _ _ HV.out _ (HLD.on (by assumption)).b).mono ?_
          rintro e11 w11 ⟨rfl, hb11⟩
          have BB11 := BB9.trans (hb11.mono BB9.size)
          clear hb11 BB9
          go_wp2_with fail
          refine (countDark_is _ _ _ HW.out _ (HLD.on (by assumption)).b).mono ?_
          rintro e12 w12 ⟨rfl, hb12⟩
          have BB12 := BB11.trans (hb12.mono BB11.size)
          clear hb12 BB11
          go_wp2_with fail
          refine (alive_any _).mono ?_
          rintro e13 w13 ⟨rfl, hb13⟩
          have BB13 := BB12.trans (hb13.mono BB12.size)
          clear hb13 BB12
          go_wp2_with fail
          go_returns
          exact ⟨by first | rfl | simp, BB13⟩
        · have HV : Hid (cntDI 3 3 = 256) := by rw [Hid]; decide
          have HW : Hid (cntDI 2 3 = 43) := by rw [Hid]; decide
          go_wp2_with fail
          refine (countDark_is _ _ _ HV.out _ (HLD.on (by assumption)).b).mono ?_
          rintro e11 w11 ⟨rfl, hb11⟩
          have BB11 := BB9.trans (hb11.mono BB9.size)
          clear hb11 BB9
          go_wp2_with fail
          refine (countDark_is _ _ _ HW.out _ (HLD.on (by assumption)).b).mono ?_
          rintro e12 w12 ⟨rfl, hb12⟩
          have BB12 := BB11.trans (hb12.mono BB11.size)
          clear hb12 BB11
          go_wp2_with fail
          refine (alive_any _).mono ?_
          rintro e13 w13 ⟨rfl, hb13⟩
          have BB13 := BB12.trans (hb13.mono BB12.size)
          clear hb13 BB12
          go_wp2_with fail
          go_returns
          exact ⟨by first | rfl | simp, BB13⟩
        · have HV : Hid (cntDI 4 1 = 1) := by rw [Hid]; decide
          have HW : Hid (cntDI 3 1 = 1) := by rw [Hid]; decide
          go_wp2_with fail
          refine (countDark_is _ _ _ HV.out _ (HLD.on (by assumption)).b).mono ?_
          rintro e11 w11 ⟨rfl, hb11⟩
          have BB11 := BB9.trans (hb11.mono BB9.size)
          clear hb11 BB9
          go_wp2_with fail
          refine (countDark_is _ _ _ HW.out _ (HLD.on (by assumption)).b).mono ?_
          rintro e12 w12 ⟨rfl, hb12⟩
          have BB12 := BB11.trans (hb12.mono BB11.size)
          clear hb12 BB11
          go_wp2_with fail
          refine (alive_any _).mono ?_
          rintro e13 w13 ⟨rfl, hb13⟩
          have BB13 := BB12.trans (hb13.mono BB12.size)
          clear hb13 BB12
          go_wp2_with fail
          go_returns
          exact ⟨by first | rfl | simp, BB13⟩
        · have HV : Hid (cntDI 4 2 = 55) := by rw [Hid]; decide
          have HW : Hid (cntDI 3 2 = 21) := by rw [Hid]; decide
          go_wp2_with fail
          refine (countDark_is _ _ _ HV.out _ (HLD.on (by assumption)).b).mono ?_
          rintro e11 w11 ⟨rfl, hb11⟩
          have BB11 := BB9.trans (hb11.mono BB9.size)
          clear hb11 BB9
          go_wp2_with fail
          refine (countDark_is _ _ _ HW.out _ (HLD.on (by assumption)).b).mono ?_
          rintro e12 w12 ⟨rfl, hb12⟩
          have BB12 := BB11.trans (hb12.mono BB11.size)
          clear hb12 BB11
          go_wp2_with fail
          refine (alive_any _).mono ?_
          rintro e13 w13 ⟨rfl, hb13⟩
          have BB13 := BB12.trans (hb13.mono BB12.size)
          clear hb13 BB12
          go_wp2_with fail
          go_returns
          exact ⟨by first | rfl | simp, BB13⟩
        · have HV : Hid (cntDI 4 3 = 1509) := by rw [Hid]; decide
          have HW : Hid (cntDI 3 3 = 256) := by rw [Hid]; decide
          go_wp2_with fail
          refine (countDark_is _ _ _ HV.out _ (HLD.on (by assumption)).b).mono ?_
          rintro e11 w11 ⟨rfl, hb11⟩
          have BB11 := BB9.trans (hb11.mono BB9.size)
          clear hb11 BB9
          go_wp2_with fail
          refine (countDark_is _ _ _ HW.out _ (HLD.on (by assumption)).b).mono ?_
          rintro e12 w12 ⟨rfl, hb12⟩
          have BB12 := BB11.trans (hb12.mono BB11.size)
          clear hb12 BB11
          go_wp2_with fail
          refine (alive_any _).mono ?_
          rintro e13 w13 ⟨rfl, hb13⟩
          have BB13 := BB12.trans (hb13.mono BB12.size)
          clear hb13 BB12
          go_wp2_with fail
          go_returns
          exact ⟨by first | rfl | simp, BB13⟩
    | true =>
      have HB := Lib.hid hB
      by_cases h3 : c < 3
      · clear hB
        go_wp2_with fail
        refine (sGridOk_is _ _ _ HB.out _).mono ?_
        rintro e2 w2 ⟨rfl, hb2⟩
        have BB2 := BB1.trans (hb2.mono BB1.size)
        clear hb2 BB1
        go_wp2_with fail
        refine (drawCountDark_any _ _ _ _ ((hb.keep fun p hp => BB2.cell hp).more BB2.size) hl hc).mono ?_
        rintro e9 w9 ⟨c9, r9, rfl, j1, j2, j3, j4, hb9⟩
        have BB9 := BB2.trans (hb9.mono BB2.size)
        clear hb9 BB2 hb
        have wc9 : IntKind.i64.wrap (c9 - 1) = c9 - 1 := IntWalk.i64_in _ (by omega)
        cases hB9 : boardB c9 r9 with
        | false =>
          have HV : Hid (cntDI c9 r9 = -1) := if_neg (by rw [hB9]; simp)
          have HW := Lib.hid (rfl : cntDI (c9 - 1) r9 = cntDI (c9 - 1) r9)
          generalize hz : cntDI (c9 - 1) r9 = z at HW
          have HZ := Lib.hid hz
          clear hB9 HW hz
          go_wp2_with fail
          refine (countDark_is _ _ _ HV.out _ (HLD.on (by assumption)).b).mono ?_
          rintro e11 w11 ⟨rfl, hb11⟩
          have BB11 := BB9.trans (hb11.mono BB9.size)
          clear hb11 BB9
          go_wp2_with fail
          refine (countDark_is _ _ _ HZ.out _ (HLD.on (by assumption)).b).mono ?_
          rintro e12 w12 ⟨rfl, hb12⟩
          have BB12 := BB11.trans (hb12.mono BB11.size)
          clear hb12 BB11
          go_wp2_with fail
          refine (alive_any _).mono ?_
          rintro e13 w13 ⟨rfl, hb13⟩
          have BB13 := BB12.trans (hb13.mono BB12.size)
          clear hb13 BB12
          go_wp2_with fail
          go_returns
          exact ⟨by first | rfl | simp, BB13⟩
        | true =>
          have hBB := boardB_iff.1 hB9
          clear hB9 wc9 j1 j2 j3 j4
          rcases (show c9 = 1 ∨ c9 = 2 ∨ c9 = 3 ∨ c9 = 4 by omega) with rfl | rfl | rfl | rfl <;> rcases (show r9 = 1 ∨ r9 = 2 ∨ r9 = 3 by omega) with rfl | rfl | rfl <;> clear hBB
          · have HV : Hid (cntDI 1 1 = 1) := by rw [Hid]; decide
            have HW : Hid (cntDI 0 1 = -1) := by rw [Hid]; decide
            go_wp2_with fail
            refine (countDark_is _ _ _ HV.out _ (HLD.on (by assumption)).b).mono ?_
            rintro e11 w11 ⟨rfl, hb11⟩
            have BB11 := BB9.trans (hb11.mono BB9.size)
            clear hb11 BB9
            go_wp2_with fail
            refine (countDark_is _ _ _ HW.out _ (HLD.on (by assumption)).b).mono ?_
            rintro e12 w12 ⟨rfl, hb12⟩
            have BB12 := BB11.trans (hb12.mono BB11.size)
            clear hb12 BB11
            go_wp2_with fail
            refine (alive_any _).mono ?_
            rintro e13 w13 ⟨rfl, hb13⟩
            have BB13 := BB12.trans (hb13.mono BB12.size)
            clear hb13 BB12
            go_wp2_with fail
            go_returns
            exact ⟨by first | rfl | simp, BB13⟩
          · have HV : Hid (cntDI 1 2 = 3) := by rw [Hid]; decide
            have HW : Hid (cntDI 0 2 = -1) := by rw [Hid]; decide
            go_wp2_with fail
            refine (countDark_is _ _ _ HV.out _ (HLD.on (by assumption)).b).mono ?_
            rintro e11 w11 ⟨rfl, hb11⟩
            have BB11 := BB9.trans (hb11.mono BB9.size)
            clear hb11 BB9
            go_wp2_with fail
            refine (countDark_is _ _ _ HW.out _ (HLD.on (by assumption)).b).mono ?_
            rintro e12 w12 ⟨rfl, hb12⟩
            have BB12 := BB11.trans (hb12.mono BB11.size)
            clear hb12 BB11
            go_wp2_with fail
            refine (alive_any _).mono ?_
            rintro e13 w13 ⟨rfl, hb13⟩
            have BB13 := BB12.trans (hb13.mono BB12.size)
            clear hb13 BB12
            go_wp2_with fail
            go_returns
            exact ⟨by first | rfl | simp, BB13⟩
          · have HV : Hid (cntDI 1 3 = 7) := by rw [Hid]; decide
            have HW : Hid (cntDI 0 3 = -1) := by rw [Hid]; decide
            go_wp2_with fail
            refine (countDark_is _ _ _ HV.out _ (HLD.on (by assumption)).b).mono ?_
            rintro e11 w11 ⟨rfl, hb11⟩
            have BB11 := BB9.trans (hb11.mono BB9.size)
            clear hb11 BB9
            go_wp2_with fail
            refine (countDark_is _ _ _ HW.out _ (HLD.on (by assumption)).b).mono ?_
            rintro e12 w12 ⟨rfl, hb12⟩
            have BB12 := BB11.trans (hb12.mono BB11.size)
            clear hb12 BB11
            go_wp2_with fail
            refine (alive_any _).mono ?_
            rintro e13 w13 ⟨rfl, hb13⟩
            have BB13 := BB12.trans (hb13.mono BB12.size)
            clear hb13 BB12
            go_wp2_with fail
            go_returns
            exact ⟨by first | rfl | simp, BB13⟩
          · have HV : Hid (cntDI 2 1 = 1) := by rw [Hid]; decide
            have HW : Hid (cntDI 1 1 = 1) := by rw [Hid]; decide
            go_wp2_with fail
            refine (countDark_is _ _ _ HV.out _ (HLD.on (by assumption)).b).mono ?_
            rintro e11 w11 ⟨rfl, hb11⟩
            have BB11 := BB9.trans (hb11.mono BB9.size)
            clear hb11 BB9
            go_wp2_with fail
            refine (countDark_is _ _ _ HW.out _ (HLD.on (by assumption)).b).mono ?_
            rintro e12 w12 ⟨rfl, hb12⟩
            have BB12 := BB11.trans (hb12.mono BB11.size)
            clear hb12 BB11
            go_wp2_with fail
            refine (alive_any _).mono ?_
            rintro e13 w13 ⟨rfl, hb13⟩
            have BB13 := BB12.trans (hb13.mono BB12.size)
            clear hb13 BB12
            go_wp2_with fail
            go_returns
            exact ⟨by first | rfl | simp, BB13⟩
          · have HV : Hid (cntDI 2 2 = 8) := by rw [Hid]; decide
            have HW : Hid (cntDI 1 2 = 3) := by rw [Hid]; decide
            go_wp2_with fail
            refine (countDark_is _ _ _ HV.out _ (HLD.on (by assumption)).b).mono ?_
            rintro e11 w11 ⟨rfl, hb11⟩
            have BB11 := BB9.trans (hb11.mono BB9.size)
            clear hb11 BB9
            go_wp2_with fail
            refine (countDark_is _ _ _ HW.out _ (HLD.on (by assumption)).b).mono ?_
            rintro e12 w12 ⟨rfl, hb12⟩
            have BB12 := BB11.trans (hb12.mono BB11.size)
            clear hb12 BB11
            go_wp2_with fail
            refine (alive_any _).mono ?_
            rintro e13 w13 ⟨rfl, hb13⟩
            have BB13 := BB12.trans (hb13.mono BB12.size)
            clear hb13 BB12
            go_wp2_with fail
            go_returns
            exact ⟨by first | rfl | simp, BB13⟩
          · have HV : Hid (cntDI 2 3 = 43) := by rw [Hid]; decide
            have HW : Hid (cntDI 1 3 = 7) := by rw [Hid]; decide
            go_wp2_with fail
            refine (countDark_is _ _ _ HV.out _ (HLD.on (by assumption)).b).mono ?_
            rintro e11 w11 ⟨rfl, hb11⟩
            have BB11 := BB9.trans (hb11.mono BB9.size)
            clear hb11 BB9
            go_wp2_with fail
            refine (countDark_is _ _ _ HW.out _ (HLD.on (by assumption)).b).mono ?_
            rintro e12 w12 ⟨rfl, hb12⟩
            have BB12 := BB11.trans (hb12.mono BB11.size)
            clear hb12 BB11
            go_wp2_with fail
            refine (alive_any _).mono ?_
            rintro e13 w13 ⟨rfl, hb13⟩
            have BB13 := BB12.trans (hb13.mono BB12.size)
            clear hb13 BB12
            go_wp2_with fail
            go_returns
            exact ⟨by first | rfl | simp, BB13⟩
          · have HV : Hid (cntDI 3 1 = 1) := by rw [Hid]; decide
            have HW : Hid (cntDI 2 1 = 1) := by rw [Hid]; decide
            go_wp2_with fail
            refine (countDark_is _ _ _ HV.out _ (HLD.on (by assumption)).b).mono ?_
            rintro e11 w11 ⟨rfl, hb11⟩
            have BB11 := BB9.trans (hb11.mono BB9.size)
            clear hb11 BB9
            go_wp2_with fail
            refine (countDark_is _ _ _ HW.out _ (HLD.on (by assumption)).b).mono ?_
            rintro e12 w12 ⟨rfl, hb12⟩
            have BB12 := BB11.trans (hb12.mono BB11.size)
            clear hb12 BB11
            go_wp2_with fail
            refine (alive_any _).mono ?_
            rintro e13 w13 ⟨rfl, hb13⟩
            have BB13 := BB12.trans (hb13.mono BB12.size)
            clear hb13 BB12
            go_wp2_with fail
            go_returns
            exact ⟨by first | rfl | simp, BB13⟩
          · have HV : Hid (cntDI 3 2 = 21) := by rw [Hid]; decide
            have HW : Hid (cntDI 2 2 = 8) := by rw [Hid]; decide
            go_wp2_with fail
            refine (countDark_is _ _ _ HV.out _ (HLD.on (by assumption)).b).mono ?_
            rintro e11 w11 ⟨rfl, hb11⟩
            have BB11 := BB9.trans (hb11.mono BB9.size)
            clear hb11 BB9
            go_wp2_with fail
            refine (countDark_is _ _ _ HW.out _ (HLD.on (by assumption)).b).mono ?_
            rintro e12 w12 ⟨rfl, hb12⟩
            have BB12 := BB11.trans (hb12.mono BB11.size)
            clear hb12 BB11
            go_wp2_with fail
            refine (alive_any _).mono ?_
            rintro e13 w13 ⟨rfl, hb13⟩
            have BB13 := BB12.trans (hb13.mono BB12.size)
            clear hb13 BB12
            go_wp2_with fail
            go_returns
            exact ⟨by first | rfl | simp, BB13⟩
          · have HV : Hid (cntDI 3 3 = 256) := by rw [Hid]; decide
            have HW : Hid (cntDI 2 3 = 43) := by rw [Hid]; decide
            go_wp2_with fail
            refine (countDark_is _ _ _ HV.out _ (HLD.on (by assumption)).b).mono ?_
            rintro e11 w11 ⟨rfl, hb11⟩
            have BB11 := BB9.trans (hb11.mono BB9.size)
            clear hb11 BB9
            go_wp2_with fail
            refine (countDark_is _ _ _ HW.out _ (HLD.on (by assumption)).b).mono ?_
            rintro e12 w12 ⟨rfl, hb12⟩
            have BB12 := BB11.trans (hb12.mono BB11.size)
            clear hb12 BB11
            go_wp2_with fail
            refine (alive_any _).mono ?_
            rintro e13 w13 ⟨rfl, hb13⟩
            have BB13 := BB12.trans (hb13.mono BB12.size)
            clear hb13 BB12
            go_wp2_with fail
            go_returns
            exact ⟨by first | rfl | simp, BB13⟩
          · have HV : Hid (cntDI 4 1 = 1) := by rw [Hid]; decide
            have HW : Hid (cntDI 3 1 = 1) := by rw [Hid]; decide
            go_wp2_with fail
            refine (countDark_is _ _ _ HV.out _ (HLD.on (by assumption)).b).mono ?_
            rintro e11 w11 ⟨rfl, hb11⟩
            have BB11 := BB9.trans (hb11.mono BB9.size)
            clear hb11 BB9
            go_wp2_with fail
            refine (countDark_is _ _ _ HW.out _ (HLD.on (by assumption)).b).mono ?_
            rintro e12 w12 ⟨rfl, hb12⟩
            have BB12 := BB11.trans (hb12.mono BB11.size)
            clear hb12 BB11
            go_wp2_with fail
            refine (alive_any _).mono ?_
            rintro e13 w13 ⟨rfl, hb13⟩
            have BB13 := BB12.trans (hb13.mono BB12.size)
            clear hb13 BB12
            go_wp2_with fail
            go_returns
            exact ⟨by first | rfl | simp, BB13⟩
          · have HV : Hid (cntDI 4 2 = 55) := by rw [Hid]; decide
            have HW : Hid (cntDI 3 2 = 21) := by rw [Hid]; decide
            go_wp2_with fail
            refine (countDark_is _ _ _ HV.out _ (HLD.on (by assumption)).b).mono ?_
            rintro e11 w11 ⟨rfl, hb11⟩
            have BB11 := BB9.trans (hb11.mono BB9.size)
            clear hb11 BB9
            go_wp2_with fail
            refine (countDark_is _ _ _ HW.out _ (HLD.on (by assumption)).b).mono ?_
            rintro e12 w12 ⟨rfl, hb12⟩
            have BB12 := BB11.trans (hb12.mono BB11.size)
            clear hb12 BB11
            go_wp2_with fail
            refine (alive_any _).mono ?_
            rintro e13 w13 ⟨rfl, hb13⟩
            have BB13 := BB12.trans (hb13.mono BB12.size)
            clear hb13 BB12
            go_wp2_with fail
            go_returns
            exact ⟨by first | rfl | simp, BB13⟩
          · have HV : Hid (cntDI 4 3 = 1509) := by rw [Hid]; decide
            have HW : Hid (cntDI 3 3 = 256) := by rw [Hid]; decide
            go_wp2_with fail
            refine (countDark_is _ _ _ HV.out _ (HLD.on (by assumption)).b).mono ?_
            rintro e11 w11 ⟨rfl, hb11⟩
            have BB11 := BB9.trans (hb11.mono BB9.size)
            clear hb11 BB9
            go_wp2_with fail
            refine (countDark_is _ _ _ HW.out _ (HLD.on (by assumption)).b).mono ?_
            rintro e12 w12 ⟨rfl, hb12⟩
            have BB12 := BB11.trans (hb12.mono BB11.size)
            clear hb12 BB11
            go_wp2_with fail
            refine (alive_any _).mono ?_
            rintro e13 w13 ⟨rfl, hb13⟩
            have BB13 := BB12.trans (hb13.mono BB12.size)
            clear hb13 BB12
            go_wp2_with fail
            go_returns
            exact ⟨by first | rfl | simp, BB13⟩
      · obtain ⟨C, R, rfl, rfl, hc', hr⟩ := grid_nat hB
        have hC3 : 3 ≤ C ∧ C ≤ 4 := by omega
        have hCm : 2 ≤ C - 1 ∧ C - 1 ≤ 4 := by omega
        have hB2 : gridOkB ((C - 1 : Nat) : Int) R = true := gridOkB_iff.2 (by omega)
        obtain ⟨f1, f2, f3, f4⟩ := tab_facts hc' hr
        obtain ⟨g1, g2, g3, g4⟩ := tab_facts hCm hr
        obtain ⟨l1, l2⟩ := tab_less hC3 hr
        have hE := (grid_edges hc' hr).2
        have hF := (grid_edges hCm hr).2
        have HI : Hid (∀ u, LaidG u → Calls Tryd.prog 19 #[.int .i64 C, .int .i64 R] u (GotInts u ((tabL C R).map Int.ofNat))) := fun u hu => by
          have e : cntLL C R = (tabL C R).map Int.ofNat := if_pos hB
          rw [← e]; exact countLeads_any C R u hu
        have HJ : Hid (∀ u, LaidG u → Calls Tryd.prog 19 #[.int .i64 ((C - 1 : Nat) : Int), .int .i64 R] u (GotInts u ((tabL (C - 1) R).map Int.ofNat))) := fun u hu => by
          have e : cntLL ((C - 1 : Nat) : Int) R = (tabL (C - 1) R).map Int.ofNat := if_pos hB2
          rw [← e]; exact countLeads_any ((C - 1 : Nat) : Int) R u hu
        have wC : IntKind.i64.wrap ((C : Int) - 1) = ((C - 1 : Nat) : Int) := by rw [IntWalk.i64_in _ (by omega)]; omega
        generalize tabL C R = T at *
        generalize tabL (C - 1) R = U at *
        obtain ⟨E, hE0⟩ : ∃ E, gridE C R = E := ⟨_, rfl⟩
        obtain ⟨F, hF0⟩ : ∃ F, gridE (C - 1) R = F := ⟨_, rfl⟩
        rw [hE0] at f1 f3 f4 hE l1 l2
        rw [hF0] at g1 g3 g4 hF l1 l2
        generalize hC1 : C - 1 = C1 at *
        have HLT := Lib.hid (show (T.map Int.ofNat).length = E + 1 by rw [List.length_map, f1])
        have HLU := Lib.hid (show (U.map Int.ofNat).length = F + 1 by rw [List.length_map, g1])
        have HT : Hid (∀ k, k < E + 1 → (T.map Int.ofNat).getD k 0 = ((T.getD k 0 : Nat) : Int)) := fun k hk => natI_at T (by omega)
        have HU : Hid (∀ k, k < F + 1 → (U.map Int.ofNat).getD k 0 = ((U.getD k 0 : Nat) : Int)) := fun k hk => natI_at U (by omega)
        have HT2 := Lib.hid f2
        have HU2 := Lib.hid g2
        have HST := Lib.hid (sT_le f2)
        have HSU := Lib.hid (sT_le g2)
        obtain ⟨Q, hQ, q1, q2, hq3, hq4⟩ := pow_named12 (show E - F ≤ 13 by omega)
        rw [hQ] at l1
        have hdiff : IntKind.i64.wrap ((E : Int) + 1 - ((F : Int) + 1)) = ((E - F : Nat) : Int) := by rw [IntWalk.i64_in _ (by omega)]; omega
        have i3 : ¬ (C : Int) < 3 := by omega
        clear f1 f2 g1 g2 hE0 hF0 hB hB2 hC1 hC3 hCm hc' hb hl hc h3
        generalize T.map Int.ofNat = L at *
        generalize U.map Int.ofNat = M at *
        go_wp2_with fail
        refine (sGridOk_is _ _ _ HB.out _).mono ?_
        rintro e2 w2 ⟨rfl, hb2⟩
        have BB2 := BB1.trans (hb2.mono BB1.size)
        clear hb2 BB1
        go_wp2_with fail
        refine (HI.out _ (HLD.on (by assumption)).g).mono ?_
        intro e3 w3 h3
        obtain ⟨g, c3, rfl, R3⟩ := h3.rowOf BB2 HLT.out
        clear h3 BB2 HI
        go_wp2_with fail
        go_loopw [9, 11] (fun s k wr => ∃ K : Nat, K ≤ E + 1 ∧ k = .int .i64 (K : Nat) ∧ s = .int .i64 (sT T K : Nat) ∧ wr = w3) (fun _ k _ => E + 1 - (intOf k).toNat)
        case atStart => exact ⟨0, by omega, rfl, rfl, rfl⟩
        case round =>
          obtain ⟨K, hK, rfl, rfl, rfl⟩ := hrel
          by_cases hlt : K < E + 1
          · have hx := HT2.out K (by omega)
            have hs := HST.out K (by omega)
            have HX : Hid (sT T (K + 1) = sT T K + T.getD K 0) := rfl
            obtain ⟨x1, -⟩ := R3.1.slot (k := K) hlt
            rw [HT.out K hlt] at x1
            have iK : (K : Int) < (E : Int) + 1 := by omega
            generalize sT T K = s at *
            generalize T.getD K 0 = x at *
            have ws : IntKind.i64.wrap ((s : Int) + (x : Int)) = ((s + x : Nat) : Int) := by rw [IntWalk.i64_in _ (by omega)]; omega
            go_wp2_with fail
            go_roundw
            case rel => exact ⟨K + 1, by omega, by go_num, by rw [HX.out]; simp, by first | rfl | trivial⟩
            case measure => simp [intOf]; omega
          · obtain rfl : K = E + 1 := by omega
            clear HT HT2 HST hlt hK
            generalize sT T (E + 1) = s at *
            go_wp2_with fail
            refine (HJ.out _ (HLD.on R3.2).g).mono ?_
            intro e5 w5 h5
            obtain ⟨g5, c5, rfl, R5⟩ := h5.rowOf R3.2 HLU.out
            clear h5 R3 HJ
            go_wp2_with fail
            go_loopw [12, 14] (fun s k wr => ∃ K : Nat, K ≤ F + 1 ∧ k = .int .i64 (K : Nat) ∧ s = .int .i64 (sT U K : Nat) ∧ wr = w5) (fun _ k _ => F + 1 - (intOf k).toNat)
            case atStart => exact ⟨0, by omega, rfl, rfl, rfl⟩
            case round =>
              obtain ⟨K, hK, rfl, rfl, rfl⟩ := hrel
              by_cases hlt : K < F + 1
              · have hx := HU2.out K (by omega)
                have hs := HSU.out K (by omega)
                have HX : Hid (sT U (K + 1) = sT U K + U.getD K 0) := rfl
                obtain ⟨x1, -⟩ := R5.1.slot (k := K) hlt
                rw [HU.out K hlt] at x1
                have iK : (K : Int) < (F : Int) + 1 := by omega
                generalize sT U K = z at *
                generalize U.getD K 0 = x at *
                have ws : IntKind.i64.wrap ((z : Int) + (x : Int)) = ((z + x : Nat) : Int) := by rw [IntWalk.i64_in _ (by omega)]; omega
                go_wp2_with fail
                go_roundw
                case rel => exact ⟨K + 1, by omega, by go_num, by rw [HX.out]; simp, by first | rfl | trivial⟩
                case measure => simp [intOf]; omega
              · obtain rfl : K = F + 1 := by omega
                clear HU HU2 HSU hlt hK
                generalize sT U (F + 1) = z at *
                have BB := R5.2
                obtain ⟨D, hD⟩ : ∃ D, E - F = D := ⟨_, rfl⟩
                rw [hD] at hdiff hQ hq3 hq4
                have hD13 : D ≤ 13 := by omega
                have hmx : (if (D : Int) < 0 then (0 : Int) else (D : Int)) = (D : Int) := if_neg (by omega)
                obtain ⟨y, hy⟩ : ∃ y, z * Q = y := ⟨_, rfl⟩
                rw [hy] at l1
                have hzQ : z * Q ≤ 8192 * 8192 := Nat.mul_le_mul g3 q2
                have e2 : (2 : Int) ^ D = (Q : Int) := by rw [← hQ, Int.natCast_pow]; rfl
                have wy : IntKind.i64.wrap ((z : Int) * 2 ^ D) = (y : Int) := by rw [e2, ← Int.natCast_mul, hy]; exact IntWalk.i64_in _ (by omega)
                have i1 : (s : Int) ≤ (y : Int) := by omega
                have i2 : ¬ (y : Int) < (s : Int) := by omega
                have i4 : (0 : Int) < (s : Int) := by omega
                have i5 : 0 < s := by omega
                clear hD hQ hy e2 hzQ l1 l2
                go_wp2_with fail
                go_returns
                exact ⟨by first | rfl | simp, BB⟩

namespace fnCrossingRows
open Go.ChangeShapes Go.WideShapes Go.ChangeAt Go.RowKit Go.Deep Go.Joins
set_option linter.unusedVariables false
set_option maxRecDepth 100000 in
theorem lifted (os : Os) (started : os.Started) (H : Type) (enc : TypeId × Value → H) :
    ReturnsInHanded {} Tryd.checked os 9 .any (fun w args => (Rows.fnCrossingRowsSpec.pre enc Tryd.prog Tryd.f9 Rows.fnCrossingRowsRow.domain false w args ∧ laidMetH Tryd.prog Rows.fnCrossingRowsRow.laid w) ∧ sizedMet enc Tryd.prog Tryd.f9 (OpenSpec.ofChange Rows.fnCrossingRowsSpec) false w args)
      (Rows.fnCrossingRowsSpec.post enc Tryd.prog Tryd.f9 false true false false) := by
  refine returnsInHanded_of_change_and (C := Tryd.checked) (X := fun w _ => laidMetH Tryd.prog Rows.fnCrossingRowsRow.laid w) (fun _ _ _ hh h => h.of_heap hh) own started (by kernel_rfl) Tryd.func9
    (ChangeSpec.witness_shaped (enc := enc) (C := Tryd.checked) (os := os) (X := fun w _ => laidMetH Tryd.prog Rows.fnCrossingRowsRow.laid w) false (World.laidAll Tryd.prog os Rows.fnCrossingRowsRow.laid) #[.slice none 0 0] 8 (World.laidAll_os _ _ _)
      (World.shaped_of_ZipB (by kernel_rfl) (by kernel_rfl)) (by kernel_rfl) (by kernel_rfl) (by kernel_rfl)
      (by rw [MakeChecks.laidMetH_plain _ _ _ (by kernel_rfl)]; exact laidMet_laidAll _ (by kernel_rfl) (by kernel_rfl))) ?_
  intro W base args ds gs before hval0 hW hcnd _ hL _
  rw [MakeChecks.laidMetH_plain _ _ _ (by kernel_rfl)] at hL
  have hM := hL
  have HLD : LaidA W := ⟨⟨laidT_of hM (by simp [Rows.fnCrossingRowsRow]), laidZ_of hM (by simp [Rows.fnCrossingRowsRow])⟩, ⟨laidS_of hM (by simp [Rows.fnCrossingRowsRow]), laidZ_of hM (by simp [Rows.fnCrossingRowsRow])⟩⟩
  have hval : ∀ (j : Nat) t v, Tryd.f9.params[j]? = some t → args[j]? = some v → Value.okWide Tryd.prog W .any base t v := hval0
  have hW' := hW
  obtain ⟨p, q, hA0, hV, rfl, hfz, hnd⟩ := hW
  have hA : DataW.TrodAll enc Tryd.prog W 0 (fun _ => true) true Tryd.f9.params.toList args.toList ds p := hA0
  rw [Tryd.params9] at hA hval
  obtain ⟨v0, vs0, d0, ds0, p0, q0, hargs, rfl, rfl, h0, r0⟩ := trodAll_cons hA
  obtain ⟨rfl, rfl, rfl⟩ := trodAll_nil r0
  obtain rfl : args = #[v0] := by cases args; simp_all
  obtain ⟨g1, g2, rfl⟩ : ∃ g1 g2, gs = [g1, g2] := by obtain ⟨_, _, _, _, d, _, _, _, _, _, d2, _, h, _⟩ := trodVars_two hV; exact ⟨d, d2, h⟩
  have k0 := h0
  have lt0 : ∀ x ∈ p0, x.block < W.heap.size := by obtain ⟨m, hm⟩ := k0; exact DataW.trod_lt m _ _ _ hm
  obtain ⟨A0, c0, bs0, rfl, hb0, hl0⟩ := open_bytes (hval 0 22 v0 rfl rfl) h0
  clear hA0 hval0
  refine (crossingRows_law A0 c0 bs0 W hb0 hl0 HLD).mono fun e W' ⟨he, bel⟩ => ?_
  subst he
  exact ⟨_, rfl, _, _, _, _, _, _, hW', trodAll_mk1 (shut_bool Tryd.underlying4 _), (trodAll_cons_mk (Below.trod laidOut (by kernel_rfl) (of_decide_eq_true (by kernel_rfl)) k0 bel lt0) trodAll_mk0), Below.trodVars laidOut bel (by kernel_rfl) hV, bel.frame _, fun h => by cases h⟩

theorem row_holds : Rows.FnCrossingRowsSaid :=
  OpenClaim.holds_of_wide 9 Tryd.f9 rfl rfl rfl rfl rfl rfl rfl ⟨rfl, rfl, rfl, rfl, rfl⟩ rfl rfl rfl rfl rfl (by kernel_rfl) Tryd.func9 (by kernel_rfl)
    (of_decide_eq_true (by kernel_rfl)) (by unfold Func.isWrapper; first | (rw [if_pos (by decide +kernel)]; kernel_rfl) | (rw [if_neg (by decide +kernel)]; exact ⟨rfl, rfl⟩))
    (fun os started H enc _ => lifted os started H enc)
theorem holds : Rows.FnCrossingRowsCardSaid :=
  Claim7.holds_tied_plain_at .later [] Rows.fnCrossingRowsCard.laidKinds true Rows.fnCrossingRowsCard.stood.harness false row_holds (fun _ h => by cases h) (by kernel_rfl) (fun _ h => by cases h) fnCrossingRows_row_tie rfl ⟨rfl, rfl⟩ (by kernel_rfl) rfl
    (fun f fn hf hfn => by
      obtain rfl : f = 9 := Option.some.inj ((show Tryd.prog.funcNamed "loop.example/failingnets/laws.FnCrossingRows" = some 9 by kernel_rfl).symm.trans hf) |>.symm
      obtain rfl : fn = Tryd.f9 := (Option.some.inj (Tryd.func9.symm.trans hfn)).symm
      exact ⟨by kernel_rfl, fun j t ht => by
        rw [Tryd.params9] at ht
        have hm : t ∈ [22] := by simpa using Array.mem_of_getElem? ht
        have hall : ([22].all fun u => !Tryd.prog.wantsStandIn u) = true := by kernel_rfl
        exact (show Tryd.prog.wantsStandIn t = false by simpa using List.all_eq_true.1 hall t hm)⟩)
    (by kernel_rfl)
end fnCrossingRows

end Go.Proofs.YtcmomghlepmogaaDoor
