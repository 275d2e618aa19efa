/- The exact law of FamilyFrom holds: the program answers as the reference does, leaves its arguments alone, and shares no memory with them or with another call's answer. -/
import Derived.Test.YtlcgbmeneajfoaaFamO
import Derived.Test.YtlcgbmeneajfoaaShell
import Derived.Test.YtlcgbmeneajfoaaSpec8d
import Derived.Test.YtlcgbmeneajfoaaImpl8f
import Derived.Test.YtlcgbmeneajfoaaVal8
namespace Go.Proofs.Ytlcgbmeneajfoaa
open Go.RowKit
set_option maxRecDepth 100000

set_option maxHeartbeats 8000000 in
theorem exFamilyFrom_walk (t : Int) (A : Option Addr) (c : Nat) (xs : List Int) (w : World) (_wf : (Lit.int .i64 t).wf = true) (hF : IntsIn w w.heap.size A xs) (hlF : xs.length ≤ maxLen) :
    Calls Try.prog 5 #[.int .i64 t, .slice A xs.length c] w fun e w' => e = .returned (.bool true) ∧ Below w.heap.size w w' := by
  unfold maxLen at hlF
  obtain ⟨m, hmF⟩ : ∃ m, xs.length = m := ⟨_, rfl⟩
  rw [hmF]
  rw [hmF] at hlF
  by_cases hbig : (1048576 : Int) < m
  · clear hF hmF
    go_enter Try.func5, Try.ntmps5
    go_wp2
    go_returns
    exact ⟨rfl, Below.refl _ _⟩
  have lF : m ≤ 1048576 := by omega
  obtain ⟨z, hz⟩ : ∃ z, fromT t xs = z := ⟨_, rfl⟩
  obtain ⟨R, hR⟩ : ∃ R, fromL t xs = R := ⟨_, rfl⟩
  obtain ⟨b, hb⟩ : ∃ b, fromOk t xs = b := ⟨_, rfl⟩
  have lR0 : R.length ≤ 64 := by rw [← hR]; exact fromL_len t xs
  obtain ⟨r, hr⟩ : ∃ r, R.length = r := ⟨_, rfl⟩
  have lR : r ≤ 1048576 := by omega
  have HS : Hid (∀ A c u, IntsIn u u.heap.size A xs → Calls Try.prog 21 #[.int .i64 t, .slice A m c] u (GotM u z r R b)) := fun A c u h0 => by
    have h := specFrom_any t A c xs u h0 (by unfold maxLen; omega)
    rw [hz, hR, hb, hmF] at h
    exact h.mono fun _ _ q => q.m hr
  have HI : Hid (∀ A c u, IntsIn u u.heap.size A xs → Calls Try.prog 23 #[.int .i64 t, .slice A m c] u (GotM u z r R b)) := fun A c u h0 => by
    have h := from_any t A c xs u h0 (by omega)
    rw [hz, hR, hb, hmF] at h
    exact h.mono fun _ _ q => q.m hr
  have HER : Hid (∀ A B c d u, IntsIn u u.heap.size A R → IntsIn u u.heap.size B R → Calls Try.prog 18 #[.agg #[.int .i64 z, .slice A r c], .agg #[.int .i64 z, .slice B r d]] u fun e w' => e = .returned (.bool true) ∧ Below u.heap.size u w') := fun A B c d u h1 h2 => eqFamily_self z A B c d r R u h1 h2 hr lR
  have HT : Hid (∀ u, IntsIn u u.heap.size A xs → Calls Try.prog 22 #[.slice A m c] u fun e w' => ∃ A2 c2, e = .returned (.slice A2 m c2) ∧ OwnI w' u.heap.size (.slice A2 m c2) xs ∧ Below u.heap.size u w') := fun u h => by
    have q := toIntS_any A c xs u h (by omega)
    rw [hmF] at q
    refine q.mono ?_
    rintro e w' ⟨A2, c2, he, own, hb⟩
    rw [hmF] at he own
    exact ⟨A2, c2, he, own, hb⟩
  have HE : Hid (∀ A B c d u, IntsIn u u.heap.size A xs → IntsIn u u.heap.size B xs → Calls Try.prog 24 #[.slice A m c, .slice B m d] u fun e w' => e = .returned (.bool true) ∧ Below u.heap.size u w') := fun A B c d u h1 h2 => eqIntS_self A B c d m xs u h1 h2 hmF lF
  have F_0 : RowArg w w A xs := ⟨hF, Below.refl _ _⟩
  clear hz hF hmF hbig hR hb hr lR0
  go_enter Try.func5, Try.ntmps5
  go_wp2_with fail
  refine (HT.out _ F_0.ints).mono ?_
  rintro e1 w1 ⟨A1, k1, rfl, own1, hb1⟩
  have F_1 := F_0.next hb1
  clear F_0
  go_wp2_with fail
  have d_F_O := F_1.below.size
  refine (HS.out _ _ _ own1.ints).mono ?_
  rintro e2 w2 ⟨A2, k2, rfl, own2, hb2⟩
  have F_2 := F_1.next hb2
  clear F_1
  clear own1
  have q_O := hb2.size
  obtain ⟨w3, hW3⟩ : ∃ W, W = w2.alloc (.cells #[.int .i64 z, .slice A2 r k2] 27) := ⟨_, rfl⟩
  have O_3 := FamObj.start (t := z) 27 q_O own2
  have F_3 := F_2.alloc (.cells #[.int .i64 z, .slice A2 r k2] 27)
  go_wp2_with fail
  rw [← hW3] at F_3 O_3 ⊢
  clear hW3
  clear F_2
  have d_F_X := F_3.below.size
  have d_O_X := O_3.hh
  refine (HT.out _ F_3.ints).mono ?_
  rintro e4 w4 ⟨A4, k4, rfl, own4, hb4⟩
  have F_4 := F_3.next hb4
  have O_4 := O_3.next hb4
  clear F_3 O_3
  have X_4 := RowAt.start own4
  clear own4
  have Oa := O_4.c0
  have Ob := O_4.c1
  have Ol := O_4.lt
  go_wp2_with fail
  clear Oa Ob Ol
  have d_F_Z := F_4.below.size
  have d_O_Z := O_4.hh
  have d_X_Z := X_4.le
  refine (HI.out _ _ _ X_4.ints).mono ?_
  rintro e5 w5 ⟨A5, k5, rfl, own5, hb5⟩
  have F_5 := F_4.next hb5
  have O_5 := O_4.next hb5
  have X_5 := X_4.next hb5
  clear F_4 O_4 X_4
  have q_Z := hb5.size
  have Oa := O_5.c0
  have Ob := O_5.c1
  have Ol := O_5.lt
  obtain ⟨w6, hW6⟩ : ∃ W, W = w5.alloc (.cells #[.int .i64 z, .slice A5 r k5] 27) := ⟨_, rfl⟩
  have Z_6 := FamObj.start (t := z) 27 q_Z own5
  have F_6 := F_5.alloc (.cells #[.int .i64 z, .slice A5 r k5] 27)
  have O_6 := O_5.alloc (.cells #[.int .i64 z, .slice A5 r k5] 27)
  have X_6 := X_5.alloc (.cells #[.int .i64 z, .slice A5 r k5] 27)
  go_wp2_with fail
  rw [← hW6] at F_6 O_6 X_6 Z_6 ⊢
  clear hW6
  clear Oa Ob Ol F_5 O_5 X_5
  refine (HER.out _ _ _ _ _ Z_6.ints O_6.ints).mono ?_
  rintro e7 w7 ⟨rfl, hb7⟩
  have F_7 := F_6.next hb7
  have O_7 := O_6.next hb7
  have X_7 := X_6.next hb7
  have Z_7 := Z_6.next hb7
  clear F_6 O_6 X_6 Z_6
  have Oa := O_7.c0
  have Ob := O_7.c1
  have Ol := O_7.lt
  have Za := Z_7.c0
  have Zb := Z_7.c1
  have Zl := Z_7.lt
  go_wp2_with fail
  clear Oa Ob Ol Za Zb Zl
  refine (HT.out _ F_7.ints).mono ?_
  rintro e8 w8 ⟨A8, k8, rfl, own8, hb8⟩
  have F_8 := F_7.next hb8
  have O_8 := O_7.next hb8
  have X_8 := X_7.next hb8
  have Z_8 := Z_7.next hb8
  clear F_7 O_7 X_7 Z_7
  have Oa := O_8.c0
  have Ob := O_8.c1
  have Ol := O_8.lt
  have Za := Z_8.c0
  have Zb := Z_8.c1
  have Zl := Z_8.lt
  go_wp2_with fail
  clear Oa Ob Ol Za Zb Zl
  refine (HE.out _ _ _ _ _ X_8.ints own8.ints).mono ?_
  rintro e9 w9 ⟨rfl, hb9⟩
  have F_9 := F_8.next hb9
  have O_9 := O_8.next hb9
  have X_9 := X_8.next hb9
  have Z_9 := Z_8.next hb9
  clear F_8 O_8 X_8 Z_8
  clear own8
  have Oa := O_9.c0
  have Ob := O_9.c1
  have Ol := O_9.lt
  have Za := Z_9.c0
  have Zb := Z_9.c1
  have Zl := Z_9.lt
  go_wp2_with fail
  clear Oa Ob Ol Za Zb Zl
  refine (markIntS_any _ _ _ _ _ _ _ X_9.own lF (by omega) (by omega)).mono ?_
  rintro e10 w10 ⟨rfl, own10, hg10⟩
  have r10 := X_9.two
  have F_10 := F_9.grown hg10 (fun j hj => by have h1 := r10 j hj; omega)
  have O_10 := O_9.grown hg10 (fun j hj => by have h1 := r10 j hj; omega)
  have Z_10 := Z_9.grown hg10 (fun j hj => by have h1 := r10 j hj; omega)
  clear F_9 O_9 X_9 Z_9 own10 hg10 r10
  have Oa := O_10.c0
  have Ob := O_10.c1
  have Ol := O_10.lt
  have Za := Z_10.c0
  have Zb := Z_10.c1
  have Zl := Z_10.lt
  go_wp2_with fail
  clear Oa Ob Ol Za Zb Zl
  refine (HER.out _ _ _ _ _ Z_10.ints O_10.ints).mono ?_
  rintro e11 w11 ⟨rfl, hb11⟩
  have F_11 := F_10.next hb11
  have O_11 := O_10.next hb11
  have Z_11 := Z_10.next hb11
  clear F_10 O_10 Z_10
  have Oa := O_11.c0
  have Ob := O_11.c1
  have Ol := O_11.lt
  have Za := Z_11.c0
  have Zb := Z_11.c1
  have Zl := Z_11.lt
  go_wp2_with fail
  clear Oa Ob Ol Za Zb Zl
  refine (markFamily_any _ _ _ _ _ _ _ _ Z_11.own lR (by omega) (by omega)).mono ?_
  rintro e12 w12 ⟨rfl, own12, hg12⟩
  have r12 := Z_11.row
  have F_12 := F_11.grown hg12 (fun j hj => by have h1 := r12 j hj; omega)
  have O_12 := O_11.grown hg12 (fun j hj => by have h1 := r12 j hj; omega)
  have Z_12 := Z_11.marked hg12 own12
  clear F_11 O_11 Z_11 own12 hg12 r12
  have Oa := O_12.c0
  have Ob := O_12.c1
  have Ol := O_12.lt
  have Za := Z_12.c0
  have Zb := Z_12.c1
  have Zl := Z_12.lt
  go_wp2_with fail
  clear Oa Ob Ol Za Zb Zl
  refine (heldFamily_any _ _ _ _ _ _ Z_12.ints lR (by omega) (by omega)).mono ?_
  rintro e13 w13 ⟨rfl, hb13⟩
  have F_13 := F_12.next hb13
  have O_13 := O_12.next hb13
  have Z_13 := Z_12.next hb13
  clear F_12 O_12 Z_12
  have Oa := O_13.c0
  have Ob := O_13.c1
  have Ol := O_13.lt
  have Za := Z_13.c0
  have Zb := Z_13.c1
  have Zl := Z_13.lt
  go_wp2_with fail
  clear Oa Ob Ol Za Zb Zl
  refine (HT.out _ F_13.ints).mono ?_
  rintro e14 w14 ⟨A14, k14, rfl, own14, hb14⟩
  have F_14 := F_13.next hb14
  have O_14 := O_13.next hb14
  have Z_14 := Z_13.next hb14
  clear F_13 O_13 Z_13
  have Oa := O_14.c0
  have Ob := O_14.c1
  have Ol := O_14.lt
  have Za := Z_14.c0
  have Zb := Z_14.c1
  have Zl := Z_14.lt
  go_wp2_with fail
  clear Oa Ob Ol Za Zb Zl
  refine (HI.out _ _ _ own14.ints).mono ?_
  rintro e15 w15 ⟨A15, k15, rfl, own15, hb15⟩
  have F_15 := F_14.next hb15
  have O_15 := O_14.next hb15
  have Z_15 := Z_14.next hb15
  clear F_14 O_14 Z_14
  clear own14
  have q_V := hb15.size
  have Oa := O_15.c0
  have Ob := O_15.c1
  have Ol := O_15.lt
  have Za := Z_15.c0
  have Zb := Z_15.c1
  have Zl := Z_15.lt
  obtain ⟨w16, hW16⟩ : ∃ W, W = w15.alloc (.cells #[.int .i64 z, .slice A15 r k15] 27) := ⟨_, rfl⟩
  have V_16 := FamObj.start (t := z) 27 q_V own15
  have F_16 := F_15.alloc (.cells #[.int .i64 z, .slice A15 r k15] 27)
  have O_16 := O_15.alloc (.cells #[.int .i64 z, .slice A15 r k15] 27)
  have Z_16 := Z_15.alloc (.cells #[.int .i64 z, .slice A15 r k15] 27)
  go_wp2_with fail
  rw [← hW16] at F_16 O_16 Z_16 V_16 ⊢
  clear hW16
  clear Oa Ob Ol Za Zb Zl F_15 O_15 Z_15
  refine (HER.out _ _ _ _ _ V_16.ints O_16.ints).mono ?_
  rintro e17 w17 ⟨rfl, hb17⟩
  have F_17 := F_16.next hb17
  have O_17 := O_16.next hb17
  have Z_17 := Z_16.next hb17
  have V_17 := V_16.next hb17
  clear F_16 O_16 Z_16 V_16
  have Oa := O_17.c0
  have Ob := O_17.c1
  have Ol := O_17.lt
  have Za := Z_17.c0
  have Zb := Z_17.c1
  have Zl := Z_17.lt
  have Va := V_17.c0
  have Vb := V_17.c1
  have Vl := V_17.lt
  go_wp2_with fail
  clear Oa Ob Ol Za Zb Zl Va Vb Vl
  refine (heldFamily_any _ _ _ _ _ _ Z_17.ints lR (by omega) (by omega)).mono ?_
  rintro e18 w18 ⟨rfl, hb18⟩
  have F_18 := F_17.next hb18
  have O_18 := O_17.next hb18
  have Z_18 := Z_17.next hb18
  have V_18 := V_17.next hb18
  clear F_17 O_17 Z_17 V_17
  have Oa := O_18.c0
  have Ob := O_18.c1
  have Ol := O_18.lt
  have Za := Z_18.c0
  have Zb := Z_18.c1
  have Zl := Z_18.lt
  have Va := V_18.c0
  have Vb := V_18.c1
  have Vl := V_18.lt
  go_wp2_with fail
  go_returns
  exact ⟨rfl, F_18.below⟩

namespace fnExactFamilyFrom
open Go.ChangeShapes Go.WideShapes Go.ChangeAt Go.RowKit Go.Deep Go.Joins
set_option linter.unusedVariables false
set_option maxRecDepth 100000 in
theorem lifted (os : Os) (started : os.Started) (H : Type) (enc : TypeId × Value → H) :
    ReturnsInHanded {} Try.checked os 5 .any (Rows.fnExactFamilyFromSpec.pre6 enc Try.prog Try.f5 Rows.fnExactFamilyFromRow.domain false) (Rows.fnExactFamilyFromSpec.post enc Try.prog Try.f5 false true false false) := by
  refine returnsInHanded_of_change (C := Try.checked) own started (by kernel_rfl) Try.func5
    (ChangeSpec.witness6 (enc := enc) (C := Try.checked) false ⟨#[], #[.int .i64 0, .slice none 0 0], []⟩ 8 (by kernel_rfl) (by kernel_rfl) (by kernel_rfl) (by kernel_rfl)) ?_
  intro W base args ds gs before hval0 hW hcnd _
  have hval : ∀ (j : Nat) t v, Try.f5.params[j]? = some t → args[j]? = some v → Value.okWide Try.prog W .any base t v := hval0
  have hW' := hW
  obtain ⟨p, q, hA0, hV, rfl, hfz, hnd⟩ := hW
  have hA : DataW.TrodAll enc Try.prog W 0 (fun _ => true) true Try.f5.params.toList args.toList ds p := hA0
  rw [Try.params5] at hA hval
  obtain ⟨v0, vs0, d0, ds0, p0, q0, hargs, rfl, rfl, h0, r0⟩ := trodAll_cons hA
  obtain ⟨v1, vs1, d1, ds1, p1, q1, rfl, rfl, rfl, h1, r1⟩ := trodAll_cons r0
  obtain ⟨rfl, rfl, rfl⟩ := trodAll_nil r1
  obtain rfl : args = #[v0, v1] := by cases args; simp_all
  obtain ⟨rfl, rfl⟩ := trodVars_none hV
  obtain ⟨a0, rfl, rfl, rfl, w0⟩ := open_int Try.underlying3 (hval 0 3 v0 rfl rfl) h0
  have k1 := h1
  have lt1 : ∀ x ∈ p1, x.block < W.heap.size := by obtain ⟨m, hm⟩ := k1; exact DataW.trod_lt m _ _ _ hm
  obtain ⟨A1, c1, xs1, rfl, hb1, hl1⟩ := open_row (hval 1 22 v1 rfl rfl) h1
  clear hA0 hval0
  refine (exFamilyFrom_walk a0 A1 c1 xs1 W w0 hb1 hl1).mono fun e W' ⟨he, bel⟩ => ?_
  subst he
  exact ⟨_, rfl, _, _, _, [], _, [], hW', trodAll_mk1 (shut_bool Try.underlying4 _), (trodAll_cons_mk (shut_int Try.underlying3 w0) (trodAll_cons_mk (Below.trod laidOut (by kernel_rfl) (of_decide_eq_true (by kernel_rfl)) k1 bel lt1) trodAll_mk0)), rfl, bel.frame _, fun h => by cases h⟩

theorem holds : Rows.FnExactFamilyFromSaid :=
  OpenClaim.holds_of_wide 5 Try.f5 rfl rfl rfl rfl rfl rfl rfl ⟨rfl, rfl, rfl, rfl, rfl⟩ rfl rfl rfl rfl rfl (by kernel_rfl) Try.func5 (by kernel_rfl)
    (of_decide_eq_true (by kernel_rfl)) (by unfold Func.isWrapper; first | (rw [if_pos (by decide +kernel)]; kernel_rfl) | (rw [if_neg (by decide +kernel)]; exact ⟨rfl, rfl⟩))
    (fun os started H enc _ => lifted os started H enc)
end fnExactFamilyFrom
end Go.Proofs.Ytlcgbmeneajfoaa
