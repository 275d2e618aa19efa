/- The exact law of CountIn holds: the program answers as the reference does, leaves its arguments alone. -/
import Derived.Test.YtlcgbmeneajfoaaFamO
import Derived.Test.YtlcgbmeneajfoaaShell
import Derived.Test.YtlcgbmeneajfoaaSpec8
import Derived.Test.YtlcgbmeneajfoaaImpl8f
import Derived.Deep.RegionHeld3
import Derived.Deep.DeepCutAuto
namespace Go.Proofs.Ytlcgbmeneajfoaa
open Go.RowKit
set_option maxRecDepth 100000

set_option maxHeartbeats 8000000 in
theorem exCountIn_walk (t : Int) (A : Option Addr) (c : Nat) (xs : List Int) (w : World) (hF : IntsIn w w.heap.size A xs) (hlF : xs.length ≤ maxLen) (_wfF : (Lit.int .i64 t).wf = true) :
    Calls Try.prog 6 #[.agg #[.int .i64 t, .slice A xs.length c]] w fun e w' => e = .returned (.bool true) ∧ Below w.heap.size w w' := by
  unfold maxLen at hlF
  obtain ⟨m, hmF⟩ : ∃ m, xs.length = m := ⟨_, rfl⟩
  rw [hmF]
  rw [hmF] at hlF
  by_cases hbig : (1048576 : Int) < m
  · clear hF hmF
    go_enter Try.func6, Try.ntmps6
    go_wp2_with fail
    refine (szFamily_big _ _ _ _ _ hlF (by omega)).mono ?_
    rintro e1 w1 ⟨rfl, hb1⟩
    go_wp2
    go_returns
    exact ⟨rfl, Below.trans (by go_grown) (hb1.mono (by simp))⟩
  have lF : m ≤ 1048576 := by omega
  obtain ⟨z, hz⟩ : ∃ z, famCountI t xs = z := ⟨_, rfl⟩
  have HS : Hid (∀ A c u, IntsIn u u.heap.size A xs → Calls Try.prog 28 #[.agg #[.int .i64 t, .slice A m c]] u fun e w' => e = .returned (.int .i64 z) ∧ Below u.heap.size u w') := fun A c u h => by
    have q := specCountIn_any t A c xs u h (by unfold maxLen; omega)
    rw [hz, hmF] at q; exact q
  have HI : Hid (∀ A c u, IntsIn u u.heap.size A xs → Calls Try.prog 29 #[.agg #[.int .i64 t, .slice A m c]] u fun e w' => e = .returned (.int .i64 z) ∧ Below u.heap.size u w') := fun A c u h => by
    have q := countIn_any t A c xs u h (by omega)
    rw [hz, hmF] at q; exact q
  have HTF : Hid (∀ u, IntsIn u u.heap.size A xs → Calls Try.prog 16 #[.agg #[.int .i64 t, .slice A m c]] u (MadeM u t m xs)) := fun u h => toFam_m t A c m xs u h hmF lF
  have HEF : Hid (∀ A B c d u, IntsIn u u.heap.size A xs → IntsIn u u.heap.size B xs → Calls Try.prog 18 #[.agg #[.int .i64 t, .slice A m c], .agg #[.int .i64 t, .slice B m d]] u fun e w' => e = .returned (.bool true) ∧ Below u.heap.size u w') := fun A B c d u h1 h2 => eqFamily_self t A B c d m xs u h1 h2 hmF lF
  have F_0 := FamArg.start (t := t) (m := m) (c := c) 24 hF
  clear hz hF hmF hbig
  go_enter Try.func6, Try.ntmps6
  have Fa := F_0.c0
  have Fb := F_0.c1
  have Fl := F_0.lt
  go_wp2_with fail
  refine (szFamily_small _ _ _ _ _ lF).mono ?_
  rintro e1 w1 ⟨rfl, hb1⟩
  clear Fa Fb Fl
  have F_1 := F_0.next hb1
  clear F_0
  have Fa := F_1.c0
  have Fb := F_1.c1
  have Fl := F_1.lt
  go_wp2_with fail
  refine (HTF.out _ F_1.ints).mono ?_
  rintro e2 w2 ⟨A2, k2, rfl, own2, hb2⟩
  clear Fa Fb Fl
  have F_2 := F_1.next hb2
  clear F_1
  have Fa := F_2.c0
  have Fb := F_2.c1
  have Fl := F_2.lt
  go_wp2_with fail
  refine (HS.out _ _ _ own2.ints).mono ?_
  rintro e3 w3 ⟨rfl, hb3⟩
  clear Fa Fb Fl
  have F_3 := F_2.next hb3
  clear F_2
  clear own2
  have d_F_X := F_3.lt
  have Fa := F_3.c0
  have Fb := F_3.c1
  have Fl := F_3.lt
  go_wp2_with fail
  refine (HTF.out _ F_3.ints).mono ?_
  rintro e4 w4 ⟨A4, k4, rfl, own4, hb4⟩
  clear Fa Fb Fl
  have F_4 := F_3.next hb4
  clear F_3
  have q_X := hb4.size
  have Fa := F_4.c0
  have Fb := F_4.c1
  have Fl := F_4.lt
  obtain ⟨w5, hW5⟩ : ∃ W, W = w4.alloc (.cells #[.int .i64 t, .slice A4 m k4] 27) := ⟨_, rfl⟩
  have X_5 := FamObj.start (t := t) 27 q_X own4
  have F_5 := F_4.alloc (.cells #[.int .i64 t, .slice A4 m k4] 27)
  go_wp2_with fail
  rw [← hW5] at F_5 X_5 ⊢
  clear hW5
  clear Fa Fb Fl F_4
  refine (HI.out _ _ _ X_5.ints).mono ?_
  rintro e6 w6 ⟨rfl, hb6⟩
  have F_6 := F_5.next hb6
  have X_6 := X_5.next hb6
  clear F_5 X_5
  have Fa := F_6.c0
  have Fb := F_6.c1
  have Fl := F_6.lt
  have Xa := X_6.c0
  have Xb := X_6.c1
  have Xl := X_6.lt
  go_wp2_with fail
  have F_d := F_6.drew
  have X_d := X_6.drew
  go_region_held3 (fun w' => w'.cell? ⟨w.heap.size, 0, none⟩ = some (.int .i64 t) ∧ w'.cell? ⟨w.heap.size, 1, none⟩ = some (.slice A m c) ∧ w'.cell? ⟨w4.heap.size, 0, none⟩ = some (.int .i64 t) ∧ w'.cell? ⟨w4.heap.size, 1, none⟩ = some (.slice A4 m k4)) (first | go_keep) (first | (go_at_call 16; refine (HTF.out _ F_d.ints).mono ?_; rintro e7 w7 ⟨A7, k7, rfl, own7, hb7⟩; have F_7 := F_d.next hb7; have X_7 := X_d.next hb7; have y0 := F_7.c0; have y1 := F_7.c1; have y2 := X_7.c0; have y3 := X_7.c1) | (go_at_call 18; refine (HEF.out _ _ _ _ _ X_7.ints own7.ints).mono ?_; rintro e8 w8 ⟨rfl, hb8⟩; have F_8 := F_7.next hb8; have X_8 := X_7.next hb8; have z0 := F_8.c0; have z1 := F_8.c1; have z2 := X_8.c0; have z3 := X_8.c1))
  clear y0 y1 y2 y3 z0 z1 z2 z3 own7 hb7 hb8 F_6 X_6 F_d X_d F_7 X_7
  clear Fa Fb Fl Xa Xb Xl
  have Fa := F_8.c0
  have Fb := F_8.c1
  have Fl := F_8.lt
  have Xa := X_8.c0
  have Xb := X_8.c1
  have Xl := X_8.lt
  go_wp2_with fail
  go_returns
  exact ⟨rfl, F_8.below⟩

namespace fnExactCountIn
open Go.ChangeShapes Go.WideShapes Go.ChangeAt Go.RowKit Go.Deep Go.Joins
set_option linter.unusedVariables false
set_option maxRecDepth 100000 in
theorem lifted (os : Os) (started : os.Started) (H : Type) (enc : TypeId × Value → H) :
    ReturnsInHanded {} Try.checked os 6 .any (Rows.fnExactCountInSpec.pre6 enc Try.prog Try.f6 Rows.fnExactCountInRow.domain false) (Rows.fnExactCountInSpec.post enc Try.prog Try.f6 false true false false) := by
  refine returnsInHanded_of_change (C := Try.checked) own started (by kernel_rfl) Try.func6
    (ChangeSpec.witness6 (enc := enc) (C := Try.checked) false ⟨#[], #[.agg #[.int .i64 0, .slice none 0 0]], []⟩ 8 (by kernel_rfl) (by kernel_rfl) (by kernel_rfl) (by kernel_rfl)) ?_
  intro W base args ds gs before hval0 hW hcnd _
  have hval : ∀ (j : Nat) t v, Try.f6.params[j]? = some t → args[j]? = some v → Value.okWide Try.prog W .any base t v := hval0
  have hW' := hW
  obtain ⟨p, q, hA0, hV, rfl, hfz, hnd⟩ := hW
  have hA : DataW.TrodAll enc Try.prog W 0 (fun _ => true) true Try.f6.params.toList args.toList ds p := hA0
  rw [Try.params6] at hA hval
  obtain ⟨v0, vs0, d0, ds0, p0, q0, hargs, rfl, rfl, h0, r0⟩ := trodAll_cons hA
  obtain ⟨rfl, rfl, rfl⟩ := trodAll_nil r0
  obtain rfl : args = #[v0] := by cases args; simp_all
  obtain ⟨rfl, rfl⟩ := trodVars_none hV
  have k0 := h0
  have lt0 : ∀ x ∈ p0, x.block < W.heap.size := by obtain ⟨m, hm⟩ := k0; exact DataW.trod_lt m _ _ _ hm
  obtain ⟨n0, A0, c0, xs0, rfl, hb0, hl0, wf0⟩ := open_family (hval 0 24 v0 rfl rfl) h0
  clear hA0 hval0
  refine (exCountIn_walk n0 A0 c0 xs0 W hb0 hl0 wf0).mono fun e W' ⟨he, bel⟩ => ?_
  subst he
  exact ⟨_, rfl, _, _, _, [], _, [], hW', trodAll_mk1 (shut_bool Try.underlying4 _), (trodAll_cons_mk (Below.trod laidOut (by kernel_rfl) (of_decide_eq_true (by kernel_rfl)) k0 bel lt0) trodAll_mk0), rfl, bel.frame _, fun h => by cases h⟩

theorem holds : Rows.FnExactCountInSaid :=
  OpenClaim.holds_of_wide 6 Try.f6 rfl rfl rfl rfl rfl rfl rfl ⟨rfl, rfl, rfl, rfl, rfl⟩ rfl rfl rfl rfl rfl (by kernel_rfl) Try.func6 (by kernel_rfl)
    (of_decide_eq_true (by kernel_rfl)) (by unfold Func.isWrapper; first | (rw [if_pos (by decide +kernel)]; kernel_rfl) | (rw [if_neg (by decide +kernel)]; exact ⟨rfl, rfl⟩))
    (fun os started H enc _ => lifted os started H enc)
end fnExactCountIn
end Go.Proofs.Ytlcgbmeneajfoaa
