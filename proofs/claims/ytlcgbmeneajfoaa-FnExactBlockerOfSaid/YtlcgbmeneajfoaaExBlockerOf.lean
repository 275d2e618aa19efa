/- The exact law of BlockerOf holds: the program answers as the reference does, leaves its arguments alone, and shares no memory with them or with another call's answer. -/
import Derived.Test.YtlcgbmeneajfoaaFamO
import Derived.Test.YtlcgbmeneajfoaaShell
import Derived.Test.YtlcgbmeneajfoaaSpec8d
import Derived.Test.YtlcgbmeneajfoaaImpl8f
import Derived.Test.YtlcgbmeneajfoaaVal8
import Derived.Deep.RegionHeld3
import Derived.Deep.DeepCutAuto
namespace Go.Proofs.Ytlcgbmeneajfoaa
open Go.RowKit
set_option maxRecDepth 100000

set_option maxHeartbeats 8000000 in
theorem exBlockerOf_walk (t : Int) (A : Option Addr) (c : Nat) (xs : List Int) (w : World) (hF : IntsIn w w.heap.size A xs) (hlF : xs.length ≤ maxLen) (_wfF : (Lit.int .i64 t).wf = true) :
    Calls Try.prog 7 #[.agg #[.int .i64 t, .slice A xs.length c]] w fun e w' => e = .returned (.bool true) ∧ Below w.heap.size w w' := by
  unfold maxLen at hlF
  obtain ⟨m, hmF⟩ : ∃ m, xs.length = m := ⟨_, rfl⟩
  rw [hmF]
  rw [hmF] at hlF
  by_cases hbig : (1048576 : Int) < m
  · clear hF hmF
    go_enter Try.func7, Try.ntmps7
    go_wp2_with fail
    refine (szFamily_big _ _ _ _ _ hlF (by omega)).mono ?_
    rintro e1 w1 ⟨rfl, hb1⟩
    go_wp2
    go_returns
    exact ⟨rfl, Below.trans (by go_grown) (hb1.mono (by simp))⟩
  have lF : m ≤ 1048576 := by omega
  obtain ⟨z, hz⟩ : ∃ z, blT t xs = z := ⟨_, rfl⟩
  obtain ⟨R, hR⟩ : ∃ R, blL t xs = R := ⟨_, rfl⟩
  obtain ⟨b, hb⟩ : ∃ b, famOkB t xs = b := ⟨_, rfl⟩
  have lR0 : R.length ≤ 64 := by rw [← hR]; exact blL_len t xs
  obtain ⟨r, hr⟩ : ∃ r, R.length = r := ⟨_, rfl⟩
  have lR : r ≤ 1048576 := by omega
  have HS : Hid (∀ A c u, IntsIn u u.heap.size A xs → Calls Try.prog 30 #[.agg #[.int .i64 t, .slice A m c]] u (GotM u z r R b)) := fun A c u h0 => by
    have h := specBlocker_any t A c xs u h0 (by unfold maxLen; omega)
    rw [hz, hR, hb, hmF] at h
    exact h.mono fun _ _ q => q.m hr
  have HI : Hid (∀ A c u, IntsIn u u.heap.size A xs → Calls Try.prog 31 #[.agg #[.int .i64 t, .slice A m c]] u (GotM u z r R b)) := fun A c u h0 => by
    have h := blocker_any t A c xs u h0 (by omega)
    rw [hz, hR, hb, hmF] at h
    exact h.mono fun _ _ q => q.m hr
  have HER : Hid (∀ A B c d u, IntsIn u u.heap.size A R → IntsIn u u.heap.size B R → Calls Try.prog 18 #[.agg #[.int .i64 z, .slice A r c], .agg #[.int .i64 z, .slice B r d]] u fun e w' => e = .returned (.bool true) ∧ Below u.heap.size u w') := fun A B c d u h1 h2 => eqFamily_self z A B c d r R u h1 h2 hr lR
  have HTF : Hid (∀ u, IntsIn u u.heap.size A xs → Calls Try.prog 16 #[.agg #[.int .i64 t, .slice A m c]] u (MadeM u t m xs)) := fun u h => toFam_m t A c m xs u h hmF lF
  have HEF : Hid (∀ A B c d u, IntsIn u u.heap.size A xs → IntsIn u u.heap.size B xs → Calls Try.prog 18 #[.agg #[.int .i64 t, .slice A m c], .agg #[.int .i64 t, .slice B m d]] u fun e w' => e = .returned (.bool true) ∧ Below u.heap.size u w') := fun A B c d u h1 h2 => eqFamily_self t A B c d m xs u h1 h2 hmF lF
  have F_0 := FamArg.start (t := t) (m := m) (c := c) 24 hF
  clear hz hF hmF hbig hR hb hr lR0
  go_enter Try.func7, Try.ntmps7
  have Fa := F_0.c0
  have Fb := F_0.c1
  have Fl := F_0.lt
  go_wp2_with fail
  refine (szFamily_small _ _ _ _ _ lF).mono ?_
  rintro e1 w1 ⟨rfl, hb1⟩
  clear Fa Fb Fl
  have F_1 := F_0.next hb1
  clear F_0
  have Fa := F_1.c0
  have Fb := F_1.c1
  have Fl := F_1.lt
  go_wp2_with fail
  refine (HTF.out _ F_1.ints).mono ?_
  rintro e2 w2 ⟨A2, k2, rfl, own2, hb2⟩
  clear Fa Fb Fl
  have F_2 := F_1.next hb2
  clear F_1
  have d_F_O := F_2.lt
  have Fa := F_2.c0
  have Fb := F_2.c1
  have Fl := F_2.lt
  go_wp2_with fail
  refine (HS.out _ _ _ own2.ints).mono ?_
  rintro e3 w3 ⟨A3, k3, rfl, own3, hb3⟩
  clear Fa Fb Fl
  have F_3 := F_2.next hb3
  clear F_2
  clear own2
  have q_O := hb3.size
  have Fa := F_3.c0
  have Fb := F_3.c1
  have Fl := F_3.lt
  obtain ⟨w4, hW4⟩ : ∃ W, W = w3.alloc (.cells #[.int .i64 z, .slice A3 r k3] 27) := ⟨_, rfl⟩
  have O_4 := FamObj.start (t := z) 27 q_O own3
  have F_4 := F_3.alloc (.cells #[.int .i64 z, .slice A3 r k3] 27)
  go_wp2_with fail
  rw [← hW4] at F_4 O_4 ⊢
  clear hW4
  clear Fa Fb Fl F_3
  have d_F_X := F_4.lt
  have d_O_X := O_4.hh
  refine (HTF.out _ F_4.ints).mono ?_
  rintro e5 w5 ⟨A5, k5, rfl, own5, hb5⟩
  have F_5 := F_4.next hb5
  have O_5 := O_4.next hb5
  clear F_4 O_4
  have q_X := hb5.size
  have Fa := F_5.c0
  have Fb := F_5.c1
  have Fl := F_5.lt
  have Oa := O_5.c0
  have Ob := O_5.c1
  have Ol := O_5.lt
  obtain ⟨w6, hW6⟩ : ∃ W, W = w5.alloc (.cells #[.int .i64 t, .slice A5 m k5] 27) := ⟨_, rfl⟩
  have X_6 := FamObj.start (t := t) 27 q_X own5
  have F_6 := F_5.alloc (.cells #[.int .i64 t, .slice A5 m k5] 27)
  have O_6 := O_5.alloc (.cells #[.int .i64 t, .slice A5 m k5] 27)
  go_wp2_with fail
  rw [← hW6] at F_6 O_6 X_6 ⊢
  clear hW6
  clear Fa Fb Fl Oa Ob Ol F_5 O_5
  have d_F_Z := F_6.lt
  have d_O_Z := O_6.hh
  have d_X_Z := X_6.hh
  refine (HI.out _ _ _ X_6.ints).mono ?_
  rintro e7 w7 ⟨A7, k7, rfl, own7, hb7⟩
  have F_7 := F_6.next hb7
  have O_7 := O_6.next hb7
  have X_7 := X_6.next hb7
  clear F_6 O_6 X_6
  have q_Z := hb7.size
  have Fa := F_7.c0
  have Fb := F_7.c1
  have Fl := F_7.lt
  have Oa := O_7.c0
  have Ob := O_7.c1
  have Ol := O_7.lt
  have Xa := X_7.c0
  have Xb := X_7.c1
  have Xl := X_7.lt
  obtain ⟨w8, hW8⟩ : ∃ W, W = w7.alloc (.cells #[.int .i64 z, .slice A7 r k7] 27) := ⟨_, rfl⟩
  have Z_8 := FamObj.start (t := z) 27 q_Z own7
  have F_8 := F_7.alloc (.cells #[.int .i64 z, .slice A7 r k7] 27)
  have O_8 := O_7.alloc (.cells #[.int .i64 z, .slice A7 r k7] 27)
  have X_8 := X_7.alloc (.cells #[.int .i64 z, .slice A7 r k7] 27)
  go_wp2_with fail
  rw [← hW8] at F_8 O_8 X_8 Z_8 ⊢
  clear hW8
  clear Fa Fb Fl Oa Ob Ol Xa Xb Xl F_7 O_7 X_7
  refine (HER.out _ _ _ _ _ Z_8.ints O_8.ints).mono ?_
  rintro e9 w9 ⟨rfl, hb9⟩
  have F_9 := F_8.next hb9
  have O_9 := O_8.next hb9
  have X_9 := X_8.next hb9
  have Z_9 := Z_8.next hb9
  clear F_8 O_8 X_8 Z_8
  have Fa := F_9.c0
  have Fb := F_9.c1
  have Fl := F_9.lt
  have Oa := O_9.c0
  have Ob := O_9.c1
  have Ol := O_9.lt
  have Xa := X_9.c0
  have Xb := X_9.c1
  have Xl := X_9.lt
  have Za := Z_9.c0
  have Zb := Z_9.c1
  have Zl := Z_9.lt
  go_wp2_with fail
  have F_d := F_9.drew
  have O_d := O_9.drew
  have X_d := X_9.drew
  have Z_d := Z_9.drew
  go_region_held3 (fun w' => w'.cell? ⟨w.heap.size, 0, none⟩ = some (.int .i64 t) ∧ w'.cell? ⟨w.heap.size, 1, none⟩ = some (.slice A m c) ∧ w'.cell? ⟨w5.heap.size, 0, none⟩ = some (.int .i64 t) ∧ w'.cell? ⟨w5.heap.size, 1, none⟩ = some (.slice A5 m k5)) (first | go_keep) (first | (go_at_call 16; refine (HTF.out _ F_d.ints).mono ?_; rintro e10 w10 ⟨A10, k10, rfl, own10, hb10⟩; have F_10 := F_d.next hb10; have O_10 := O_d.next hb10; have X_10 := X_d.next hb10; have Z_10 := Z_d.next hb10; have y0 := F_10.c0; have y1 := F_10.c1; have y2 := X_10.c0; have y3 := X_10.c1) | (go_at_call 18; refine (HEF.out _ _ _ _ _ X_10.ints own10.ints).mono ?_; rintro e11 w11 ⟨rfl, hb11⟩; have F_11 := F_10.next hb11; have O_11 := O_10.next hb11; have X_11 := X_10.next hb11; have Z_11 := Z_10.next hb11; have z0 := F_11.c0; have z1 := F_11.c1; have z2 := X_11.c0; have z3 := X_11.c1))
  clear y0 y1 y2 y3 z0 z1 z2 z3 own10 hb10 hb11 F_9 O_9 X_9 Z_9 F_d O_d X_d Z_d F_10 O_10 X_10 Z_10
  clear Fa Fb Fl Oa Ob Ol Xa Xb Xl Za Zb Zl
  have Fa := F_11.c0
  have Fb := F_11.c1
  have Fl := F_11.lt
  have Oa := O_11.c0
  have Ob := O_11.c1
  have Ol := O_11.lt
  have Xa := X_11.c0
  have Xb := X_11.c1
  have Xl := X_11.lt
  have Za := Z_11.c0
  have Zb := Z_11.c1
  have Zl := Z_11.lt
  go_wp2_with fail
  refine (markFamily_any _ _ _ _ _ _ _ _ X_11.own lF (by omega) (by omega)).mono ?_
  rintro e12 w12 ⟨rfl, own12, hg12⟩
  clear Fa Fb Fl Oa Ob Ol Xa Xb Xl Za Zb Zl
  have r12 := X_11.row
  have F_12 := F_11.grown hg12 (fun j hj => by have h1 := r12 j hj; omega)
  have O_12 := O_11.grown hg12 (fun j hj => by have h1 := r12 j hj; omega)
  have Z_12 := Z_11.grown hg12 (fun j hj => by have h1 := r12 j hj; omega)
  clear F_11 O_11 X_11 Z_11 own12 hg12 r12
  have Fa := F_12.c0
  have Fb := F_12.c1
  have Fl := F_12.lt
  have Oa := O_12.c0
  have Ob := O_12.c1
  have Ol := O_12.lt
  have Za := Z_12.c0
  have Zb := Z_12.c1
  have Zl := Z_12.lt
  go_wp2_with fail
  clear Fa Fb Fl Oa Ob Ol Za Zb Zl
  refine (HER.out _ _ _ _ _ Z_12.ints O_12.ints).mono ?_
  rintro e13 w13 ⟨rfl, hb13⟩
  have F_13 := F_12.next hb13
  have O_13 := O_12.next hb13
  have Z_13 := Z_12.next hb13
  clear F_12 O_12 Z_12
  have Fa := F_13.c0
  have Fb := F_13.c1
  have Fl := F_13.lt
  have Oa := O_13.c0
  have Ob := O_13.c1
  have Ol := O_13.lt
  have Za := Z_13.c0
  have Zb := Z_13.c1
  have Zl := Z_13.lt
  go_wp2_with fail
  refine (markFamily_any _ _ _ _ _ _ _ _ Z_13.own lR (by omega) (by omega)).mono ?_
  rintro e14 w14 ⟨rfl, own14, hg14⟩
  clear Fa Fb Fl Oa Ob Ol Za Zb Zl
  have r14 := Z_13.row
  have F_14 := F_13.grown hg14 (fun j hj => by have h1 := r14 j hj; omega)
  have O_14 := O_13.grown hg14 (fun j hj => by have h1 := r14 j hj; omega)
  have Z_14 := Z_13.marked hg14 own14
  clear F_13 O_13 Z_13 own14 hg14 r14
  have Fa := F_14.c0
  have Fb := F_14.c1
  have Fl := F_14.lt
  have Oa := O_14.c0
  have Ob := O_14.c1
  have Ol := O_14.lt
  have Za := Z_14.c0
  have Zb := Z_14.c1
  have Zl := Z_14.lt
  go_wp2_with fail
  clear Fa Fb Fl Oa Ob Ol Za Zb Zl
  refine (heldFamily_any _ _ _ _ _ _ Z_14.ints lR (by omega) (by omega)).mono ?_
  rintro e15 w15 ⟨rfl, hb15⟩
  have F_15 := F_14.next hb15
  have O_15 := O_14.next hb15
  have Z_15 := Z_14.next hb15
  clear F_14 O_14 Z_14
  have Fa := F_15.c0
  have Fb := F_15.c1
  have Fl := F_15.lt
  have Oa := O_15.c0
  have Ob := O_15.c1
  have Ol := O_15.lt
  have Za := Z_15.c0
  have Zb := Z_15.c1
  have Zl := Z_15.lt
  go_wp2_with fail
  refine (HTF.out _ F_15.ints).mono ?_
  rintro e16 w16 ⟨A16, k16, rfl, own16, hb16⟩
  clear Fa Fb Fl Oa Ob Ol Za Zb Zl
  have F_16 := F_15.next hb16
  have O_16 := O_15.next hb16
  have Z_16 := Z_15.next hb16
  clear F_15 O_15 Z_15
  have d_F_V := F_16.lt
  have d_O_V := O_16.hh
  have d_Z_V := Z_16.hh
  have Fa := F_16.c0
  have Fb := F_16.c1
  have Fl := F_16.lt
  have Oa := O_16.c0
  have Ob := O_16.c1
  have Ol := O_16.lt
  have Za := Z_16.c0
  have Zb := Z_16.c1
  have Zl := Z_16.lt
  go_wp2_with fail
  refine (HI.out _ _ _ own16.ints).mono ?_
  rintro e17 w17 ⟨A17, k17, rfl, own17, hb17⟩
  clear Fa Fb Fl Oa Ob Ol Za Zb Zl
  have F_17 := F_16.next hb17
  have O_17 := O_16.next hb17
  have Z_17 := Z_16.next hb17
  clear F_16 O_16 Z_16
  clear own16
  have q_V := hb17.size
  have Fa := F_17.c0
  have Fb := F_17.c1
  have Fl := F_17.lt
  have Oa := O_17.c0
  have Ob := O_17.c1
  have Ol := O_17.lt
  have Za := Z_17.c0
  have Zb := Z_17.c1
  have Zl := Z_17.lt
  obtain ⟨w18, hW18⟩ : ∃ W, W = w17.alloc (.cells #[.int .i64 z, .slice A17 r k17] 27) := ⟨_, rfl⟩
  have V_18 := FamObj.start (t := z) 27 q_V own17
  have F_18 := F_17.alloc (.cells #[.int .i64 z, .slice A17 r k17] 27)
  have O_18 := O_17.alloc (.cells #[.int .i64 z, .slice A17 r k17] 27)
  have Z_18 := Z_17.alloc (.cells #[.int .i64 z, .slice A17 r k17] 27)
  go_wp2_with fail
  rw [← hW18] at F_18 O_18 Z_18 V_18 ⊢
  clear hW18
  clear Fa Fb Fl Oa Ob Ol Za Zb Zl F_17 O_17 Z_17
  refine (HER.out _ _ _ _ _ V_18.ints O_18.ints).mono ?_
  rintro e19 w19 ⟨rfl, hb19⟩
  have F_19 := F_18.next hb19
  have O_19 := O_18.next hb19
  have Z_19 := Z_18.next hb19
  have V_19 := V_18.next hb19
  clear F_18 O_18 Z_18 V_18
  have Fa := F_19.c0
  have Fb := F_19.c1
  have Fl := F_19.lt
  have Oa := O_19.c0
  have Ob := O_19.c1
  have Ol := O_19.lt
  have Za := Z_19.c0
  have Zb := Z_19.c1
  have Zl := Z_19.lt
  have Va := V_19.c0
  have Vb := V_19.c1
  have Vl := V_19.lt
  go_wp2_with fail
  clear Fa Fb Fl Oa Ob Ol Za Zb Zl Va Vb Vl
  refine (heldFamily_any _ _ _ _ _ _ Z_19.ints lR (by omega) (by omega)).mono ?_
  rintro e20 w20 ⟨rfl, hb20⟩
  have F_20 := F_19.next hb20
  have O_20 := O_19.next hb20
  have Z_20 := Z_19.next hb20
  have V_20 := V_19.next hb20
  clear F_19 O_19 Z_19 V_19
  have Fa := F_20.c0
  have Fb := F_20.c1
  have Fl := F_20.lt
  have Oa := O_20.c0
  have Ob := O_20.c1
  have Ol := O_20.lt
  have Za := Z_20.c0
  have Zb := Z_20.c1
  have Zl := Z_20.lt
  have Va := V_20.c0
  have Vb := V_20.c1
  have Vl := V_20.lt
  go_wp2_with fail
  go_returns
  exact ⟨rfl, F_20.below⟩

namespace fnExactBlockerOf
open Go.ChangeShapes Go.WideShapes Go.ChangeAt Go.RowKit Go.Deep Go.Joins
set_option linter.unusedVariables false
set_option maxRecDepth 100000 in
theorem lifted (os : Os) (started : os.Started) (H : Type) (enc : TypeId × Value → H) :
    ReturnsInHanded {} Try.checked os 7 .any (Rows.fnExactBlockerOfSpec.pre6 enc Try.prog Try.f7 Rows.fnExactBlockerOfRow.domain false) (Rows.fnExactBlockerOfSpec.post enc Try.prog Try.f7 false true false false) := by
  refine returnsInHanded_of_change (C := Try.checked) own started (by kernel_rfl) Try.func7
    (ChangeSpec.witness6 (enc := enc) (C := Try.checked) false ⟨#[], #[.agg #[.int .i64 0, .slice none 0 0]], []⟩ 8 (by kernel_rfl) (by kernel_rfl) (by kernel_rfl) (by kernel_rfl)) ?_
  intro W base args ds gs before hval0 hW hcnd _
  have hval : ∀ (j : Nat) t v, Try.f7.params[j]? = some t → args[j]? = some v → Value.okWide Try.prog W .any base t v := hval0
  have hW' := hW
  obtain ⟨p, q, hA0, hV, rfl, hfz, hnd⟩ := hW
  have hA : DataW.TrodAll enc Try.prog W 0 (fun _ => true) true Try.f7.params.toList args.toList ds p := hA0
  rw [Try.params7] at hA hval
  obtain ⟨v0, vs0, d0, ds0, p0, q0, hargs, rfl, rfl, h0, r0⟩ := trodAll_cons hA
  obtain ⟨rfl, rfl, rfl⟩ := trodAll_nil r0
  obtain rfl : args = #[v0] := by cases args; simp_all
  obtain ⟨rfl, rfl⟩ := trodVars_none hV
  have k0 := h0
  have lt0 : ∀ x ∈ p0, x.block < W.heap.size := by obtain ⟨m, hm⟩ := k0; exact DataW.trod_lt m _ _ _ hm
  obtain ⟨n0, A0, c0, xs0, rfl, hb0, hl0, wf0⟩ := open_family (hval 0 24 v0 rfl rfl) h0
  clear hA0 hval0
  refine (exBlockerOf_walk n0 A0 c0 xs0 W hb0 hl0 wf0).mono fun e W' ⟨he, bel⟩ => ?_
  subst he
  exact ⟨_, rfl, _, _, _, [], _, [], hW', trodAll_mk1 (shut_bool Try.underlying4 _), (trodAll_cons_mk (Below.trod laidOut (by kernel_rfl) (of_decide_eq_true (by kernel_rfl)) k0 bel lt0) trodAll_mk0), rfl, bel.frame _, fun h => by cases h⟩

theorem holds : Rows.FnExactBlockerOfSaid :=
  OpenClaim.holds_of_wide 7 Try.f7 rfl rfl rfl rfl rfl rfl rfl ⟨rfl, rfl, rfl, rfl, rfl⟩ rfl rfl rfl rfl rfl (by kernel_rfl) Try.func7 (by kernel_rfl)
    (of_decide_eq_true (by kernel_rfl)) (by unfold Func.isWrapper; first | (rw [if_pos (by decide +kernel)]; kernel_rfl) | (rw [if_neg (by decide +kernel)]; exact ⟨rfl, rfl⟩))
    (fun os started H enc _ => lifted os started H enc)
end fnExactBlockerOf
end Go.Proofs.Ytlcgbmeneajfoaa
