/- The exact law of PathFamily holds: the program answers as the reference does, leaves its arguments alone, and shares no memory with them or with another call's answer. -/
import Derived.Test.YtmdmmebekicpkaaFamO
import Derived.Test.YtmdmmebekicpkaaObj
import Derived.Test.YtmdmmebekicpkaaShell
import Derived.Test.YtmdmmebekicpkaaPathFam
import Derived.Deep.RegionHeld3
import Derived.Deep.DeepCutAuto
namespace Go.Proofs.Ytmdmmebekicpkaa
open Go.RowKit
set_option maxRecDepth 100000

set_option maxHeartbeats 8000000 in
theorem exPathFamily_walk (n : Int) (A : Option Addr) (c : Nat) (es : List (Int × Int)) (a1 a2 : Int) (w : World) (hes : EdgesIn w w.heap.size A es) (hl0 : es.length ≤ maxLen) (_wf : (Lit.int .i64 n).wf = true) (_w1 : (Lit.int .i64 a1).wf = true) (_w2 : (Lit.int .i64 a2).wf = true) :
    Calls Try.prog 10 #[.agg #[.int .i64 n, .slice A es.length c], .int .i64 a1, .int .i64 a2] w fun e w' => e = .returned (.bool true) ∧ Below w.heap.size w w' := by
  by_cases hbig : (1048576 : Int) < es.length
  · go_enter Try.func10, Try.ntmps10
    unfold maxLen at hl0
    go_wp2_with fail
    refine (szNet_big _ _ _ _ _ hl0 (by omega)).mono ?_
    rintro e1 w1 ⟨rfl, hb1⟩
    go_wp2
    go_returns
    exact ⟨rfl, ((Below.refl _ _).alloc (Nat.le_refl _) _).trans (hb1.mono (by simp))⟩
  have hl : es.length ≤ 1048576 := by omega
  obtain ⟨z, hz⟩ : ∃ z, pfT n es a1 a2 = z := ⟨_, rfl⟩
  obtain ⟨R, hR⟩ : ∃ R, pfL n es a1 a2 = R := ⟨_, rfl⟩
  obtain ⟨b, hb⟩ : ∃ b, pfOk n es a1 a2 = b := ⟨_, rfl⟩
  have lR0 : R.length ≤ 512 := by
    rw [← hR]
    unfold pfL
    split
    · exact natPaths_len n es a1 a2
    · simp
  obtain ⟨r, hr⟩ : ∃ r, R.length = r := ⟨_, rfl⟩
  have lR : r ≤ 1048576 := by omega
  have HS : Hid (∀ A c u, EdgesIn u u.heap.size A es → Calls Try.prog 40 #[.agg #[.int .i64 n, .slice A es.length c], .int .i64 a1, .int .i64 a2] u (GotM u z r R b)) := fun A c u h0 => by
    have h := specPathFamily_any n a1 a2 A c es u h0 hl
    rw [hz, hR, hb] at h
    exact h.mono fun _ _ q => q.m hr
  have HI : Hid (∀ A c u, EdgesIn u u.heap.size A es → Calls Try.prog 42 #[.agg #[.int .i64 n, .slice A es.length c], .int .i64 a1, .int .i64 a2] u (GotM u z r R b)) := fun A c u h0 => by
    have h := pathFamily_any n a1 a2 A c es u h0 hl
    rw [hz, hR, hb] at h
    exact h.mono fun _ _ q => q.m hr
  have HER : Hid (∀ A B c d u, IntsIn u u.heap.size A R → IntsIn u u.heap.size B R → Calls Try.prog 36 #[.agg #[.int .i64 z, .slice A r c], .agg #[.int .i64 z, .slice B r d]] u fun e w' => e = .returned (.bool true) ∧ Below u.heap.size u w') := fun A B c d u h1 h2 => eqFamily_self z A B c d r R u h1 h2 hr lR
  clear hz hbig hR hb hr lR0 hl0
  go_enter Try.func10, Try.ntmps10
  go_wp2_with fail
  refine (szNet_small _ _ _ _ _ hl).mono ?_
  rintro e1 w1 ⟨rfl, hb1⟩
  have F_1 := (ArgNet.start 48 hes).step hb1 (by simp)
  clear hb1 hes
  have Fa := F_1.c0
  have Fb := F_1.c1
  go_wp2_with fail
  clear Fa Fb
  refine (toNet_any _ _ _ _ _ F_1.edges hl).mono ?_
  rintro e2 w2 ⟨g2, rfl, own2, hb2⟩
  have F_2 := F_1.step hb2 F_1.lt
  clear F_1
  have Fa := F_2.c0
  have Fb := F_2.c1
  go_wp2_with fail
  clear Fa Fb
  have d_F_O := F_2.lt
  refine (HS.out _ _ _ own2.edges).mono ?_
  rintro e3 w3 ⟨A3, k3, rfl, own3, hb3⟩
  have F_3 := F_2.step hb3 F_2.lt
  clear F_2
  clear own2
  have q_O := hb3.size
  have Fa := F_3.c0
  have Fb := F_3.c1
  obtain ⟨w4, hW4⟩ : ∃ W, W = w3.alloc (.cells #[.int .i64 z, .slice A3 r k3] 27) := ⟨_, rfl⟩
  have O_4 := FamObj.start (t := z) 27 q_O own3
  have F_4 := F_3.step ((Below.refl w3.heap.size w3).alloc (Nat.le_refl _) (.cells #[.int .i64 z, .slice A3 r k3] 27)) F_3.lt
  go_upto_region 6 with (fail)
  rw [← hW4] at F_4 O_4 ⊢
  clear hW4
  clear Fa Fb
  clear F_3
  have Fa := F_4.c0
  have Fb := F_4.c1
  have Oa := O_4.c0
  have Ob := O_4.c1
  have Ol := O_4.lt
  go_wp2_with fail
  clear Fa Fb Oa Ob Ol
  have d_F_X := F_4.lt
  have d_O_X := O_4.hh
  refine (toNet_any _ _ _ _ _ F_4.edges hl).mono ?_
  rintro e5 w5 ⟨g5, rfl, own5, hb5⟩
  have F_5 := F_4.step hb5 F_4.lt
  have O_5 := O_4.next hb5
  clear F_4 O_4
  have q_X := hb5.size
  have Fa := F_5.c0
  have Fb := F_5.c1
  have Oa := O_5.c0
  have Ob := O_5.c1
  have Ol := O_5.lt
  obtain ⟨w6, hW6⟩ : ∃ W, W = w5.alloc (.cells #[.int .i64 n, .slice (some ⟨g5, 0, none⟩) es.length es.length] 53) := ⟨_, rfl⟩
  have X_6 := NetAt.start (n := n) 53 own5
  have F_6 := F_5.step ((Below.refl w5.heap.size w5).alloc (Nat.le_refl _) (.cells #[.int .i64 n, .slice (some ⟨g5, 0, none⟩) es.length es.length] 53)) F_5.lt
  have O_6 := O_5.alloc (.cells #[.int .i64 n, .slice (some ⟨g5, 0, none⟩) es.length es.length] 53)
  have s_X : w5.heap.size < w6.heap.size := by rw [hW6]; simp
  go_upto_region 7 with (fail)
  rw [← hW6] at F_6 O_6 X_6 ⊢
  clear hW6
  clear Fa Fb Oa Ob Ol
  clear F_5 O_5
  have Fa := F_6.c0
  have Fb := F_6.c1
  have Oa := O_6.c0
  have Ob := O_6.c1
  have Ol := O_6.lt
  have Xa := X_6.c0
  have Xb := X_6.c1
  go_wp2_with fail
  clear Fa Fb Oa Ob Ol Xa Xb
  clear own5
  have d_F_Z := F_6.lt
  have d_O_Z := O_6.hh
  have d_X_Z := X_6.lt
  refine (HI.out _ _ _ X_6.edges).mono ?_
  rintro e7 w7 ⟨A7, k7, rfl, own7, hb7⟩
  have F_7 := F_6.step hb7 F_6.lt
  have O_7 := O_6.next hb7
  have X_7 := X_6.step hb7 X_6.lt
  clear F_6 O_6 X_6
  have q_Z := hb7.size
  have Fa := F_7.c0
  have Fb := F_7.c1
  have Oa := O_7.c0
  have Ob := O_7.c1
  have Ol := O_7.lt
  have Xa := X_7.c0
  have Xb := X_7.c1
  obtain ⟨w8, hW8⟩ : ∃ W, W = w7.alloc (.cells #[.int .i64 z, .slice A7 r k7] 27) := ⟨_, rfl⟩
  have Z_8 := FamObj.start (t := z) 27 q_Z own7
  have F_8 := F_7.step ((Below.refl w7.heap.size w7).alloc (Nat.le_refl _) (.cells #[.int .i64 z, .slice A7 r k7] 27)) F_7.lt
  have O_8 := O_7.alloc (.cells #[.int .i64 z, .slice A7 r k7] 27)
  have X_8 := X_7.step ((Below.refl w7.heap.size w7).alloc (Nat.le_refl _) (.cells #[.int .i64 z, .slice A7 r k7] 27)) X_7.lt
  go_upto_region 8 with (fail)
  rw [← hW8] at F_8 O_8 X_8 Z_8 ⊢
  clear hW8
  clear Fa Fb Oa Ob Ol Xa Xb
  clear F_7 O_7 X_7
  have Fa := F_8.c0
  have Fb := F_8.c1
  have Oa := O_8.c0
  have Ob := O_8.c1
  have Ol := O_8.lt
  have Xa := X_8.c0
  have Xb := X_8.c1
  have Za := Z_8.c0
  have Zb := Z_8.c1
  have Zl := Z_8.lt
  go_wp2_with fail
  clear Fa Fb Oa Ob Ol Xa Xb Za Zb Zl
  refine (HER.out _ _ _ _ _ Z_8.ints O_8.ints).mono ?_
  rintro e9 w9 ⟨rfl, hb9⟩
  have F_9 := F_8.step hb9 F_8.lt
  have O_9 := O_8.next hb9
  have X_9 := X_8.step hb9 X_8.lt
  have Z_9 := Z_8.next hb9
  clear F_8 O_8 X_8 Z_8
  have Fa := F_9.c0
  have Fb := F_9.c1
  have Oa := O_9.c0
  have Ob := O_9.c1
  have Ol := O_9.lt
  have Xa := X_9.c0
  have Xb := X_9.c1
  have Za := Z_9.c0
  have Zb := Z_9.c1
  have Zl := Z_9.lt
  go_upto_region 10 with (fail)
  clear Fa Fb Oa Ob Ol Xa Xb Za Zb Zl
  have F_D := F_9.step ((Below.refl w9.heap.size w9).drew) F_9.lt
  have O_D := O_9.next ((Below.refl w9.heap.size w9).drew)
  have X_D := X_9.step ((Below.refl w9.heap.size w9).drew) X_9.lt
  have Z_D := Z_9.next ((Below.refl w9.heap.size w9).drew)
  have Fa := F_9.c0
  have Xa := X_9.c0
  have Fb := F_9.c1
  have Xb := X_9.c1
  clear F_9 O_9 X_9 Z_9
  go_wp2_with fail
  go_region_held3 (fun w' => w'.cell? ⟨w.heap.size, 0, none⟩ = some (.int .i64 n) ∧ w'.cell? ⟨w.heap.size, 1, none⟩ = some (.slice A es.length c) ∧
        w'.cell? ⟨w5.heap.size, 0, none⟩ = some (.int .i64 n) ∧ w'.cell? ⟨w5.heap.size, 1, none⟩ = some (.slice (some ⟨g5, 0, none⟩) es.length es.length))
    (first | go_keep)
    (first
      | (go_at_call 41
         refine (toNet_any _ _ _ _ _ F_D.edges hl).mono ?_
         rintro e90 w90 ⟨g90, rfl, own90, hb90⟩
         have F_A := F_D.step hb90 F_D.lt
         have O_A := O_D.next hb90
         have X_A := X_D.step hb90 X_D.lt
         have Z_A := Z_D.next hb90
         have y0 := F_A.c0
         have y1 := F_A.c1
         have y2 := X_A.c0
         have y3 := X_A.c1)
      | (go_at_call 43
         refine (eqNet_any _ _ _ _ _ _ _ _ _ X_A.edges own90.edges hl hl).mono ?_
         rintro e91 w91 ⟨rfl, hb91⟩
         have F_91 := F_A.step hb91 F_A.lt
         have O_91 := O_A.next hb91
         have X_91 := X_A.step hb91 X_A.lt
         have Z_91 := Z_A.next hb91
         have z0 := F_91.c0
         have z1 := F_91.c1
         have z2 := X_91.c0
         have z3 := X_91.c1))
  rw [netEqB_self]
  clear y0 y1 y2 y3 z0 z1 z2 z3 Fa Fb Xa Xb own90 hb90 hb91 F_A F_D O_A O_D X_A X_D Z_A Z_D
  have Fa := F_91.c0
  have Fb := F_91.c1
  have Oa := O_91.c0
  have Ob := O_91.c1
  have Ol := O_91.lt
  have Xa := X_91.c0
  have Xb := X_91.c1
  have Za := Z_91.c0
  have Zb := Z_91.c1
  have Zl := Z_91.lt
  go_wp2_with fail
  clear Fa Fb Oa Ob Ol Xa Xb Za Zb Zl
  refine (markNet_any _ _ _ _ _ _ _ X_91.own hl (by omega) (by omega) (by have := X_91.lt; omega)).mono ?_
  rintro e92 w92 ⟨rfl, own92, hg92⟩
  have r92 := X_91.row
  have F_92 := F_91.grownBy hg92 (fun j hj => by have h1 := r92 j hj; omega)
  have O_92 := O_91.grown hg92 (fun j hj => by have h1 := r92 j hj; omega)
  have Z_92 := Z_91.grown hg92 (fun j hj => by have h1 := r92 j hj; omega)
  clear F_91 O_91 X_91 Z_91 own92 hg92 r92
  have Fa := F_92.c0
  have Fb := F_92.c1
  have Oa := O_92.c0
  have Ob := O_92.c1
  have Ol := O_92.lt
  have Za := Z_92.c0
  have Zb := Z_92.c1
  have Zl := Z_92.lt
  go_wp2_with fail
  clear Fa Fb Oa Ob Ol Za Zb Zl
  refine (HER.out _ _ _ _ _ Z_92.ints O_92.ints).mono ?_
  rintro e93 w93 ⟨rfl, hb93⟩
  have F_93 := F_92.step hb93 F_92.lt
  have O_93 := O_92.next hb93
  have Z_93 := Z_92.next hb93
  clear F_92 O_92 Z_92
  have Fa := F_93.c0
  have Fb := F_93.c1
  have Oa := O_93.c0
  have Ob := O_93.c1
  have Ol := O_93.lt
  have Za := Z_93.c0
  have Zb := Z_93.c1
  have Zl := Z_93.lt
  go_wp2_with fail
  clear Fa Fb Oa Ob Ol Za Zb Zl
  refine (markFamily_any _ _ _ _ _ _ _ _ Z_93.own lR (by omega) (by omega)).mono ?_
  rintro e94 w94 ⟨rfl, own94, hg94⟩
  have r94 := Z_93.row
  have F_94 := F_93.grownBy hg94 (fun j hj => by have h1 := r94 j hj; omega)
  have O_94 := O_93.grown hg94 (fun j hj => by have h1 := r94 j hj; omega)
  have Z_94 := Z_93.marked hg94 own94
  clear F_93 O_93 Z_93 own94 hg94 r94
  have Fa := F_94.c0
  have Fb := F_94.c1
  have Oa := O_94.c0
  have Ob := O_94.c1
  have Ol := O_94.lt
  have Za := Z_94.c0
  have Zb := Z_94.c1
  have Zl := Z_94.lt
  go_wp2_with fail
  clear Fa Fb Oa Ob Ol Za Zb Zl
  refine (heldFamily_any _ _ _ _ _ _ Z_94.ints lR (by omega) (by omega)).mono ?_
  rintro e95 w95 ⟨rfl, hb95⟩
  have F_95 := F_94.step hb95 F_94.lt
  have O_95 := O_94.next hb95
  have Z_95 := Z_94.next hb95
  clear F_94 O_94 Z_94
  have Fa := F_95.c0
  have Fb := F_95.c1
  have Oa := O_95.c0
  have Ob := O_95.c1
  have Ol := O_95.lt
  have Za := Z_95.c0
  have Zb := Z_95.c1
  have Zl := Z_95.lt
  go_wp2_with fail
  clear Fa Fb Oa Ob Ol Za Zb Zl
  refine (toNet_any _ _ _ _ _ F_95.edges hl).mono ?_
  rintro e96 w96 ⟨g96, rfl, own96, hb96⟩
  have F_96 := F_95.step hb96 F_95.lt
  have O_96 := O_95.next hb96
  have Z_96 := Z_95.next hb96
  clear F_95 O_95 Z_95
  have Fa := F_96.c0
  have Fb := F_96.c1
  have Oa := O_96.c0
  have Ob := O_96.c1
  have Ol := O_96.lt
  have Za := Z_96.c0
  have Zb := Z_96.c1
  have Zl := Z_96.lt
  go_wp2_with fail
  clear Fa Fb Oa Ob Ol Za Zb Zl
  refine (HI.out _ _ _ own96.edges).mono ?_
  rintro e97 w97 ⟨A97, k97, rfl, own97, hb97⟩
  have F_97 := F_96.step hb97 F_96.lt
  have O_97 := O_96.next hb97
  have Z_97 := Z_96.next hb97
  clear F_96 O_96 Z_96
  clear own96
  have q_V := hb97.size
  have Fa := F_97.c0
  have Fb := F_97.c1
  have Oa := O_97.c0
  have Ob := O_97.c1
  have Ol := O_97.lt
  have Za := Z_97.c0
  have Zb := Z_97.c1
  have Zl := Z_97.lt
  obtain ⟨w98, hW98⟩ : ∃ W, W = w97.alloc (.cells #[.int .i64 z, .slice A97 r k97] 27) := ⟨_, rfl⟩
  have V_98 := FamObj.start (t := z) 27 q_V own97
  have F_98 := F_97.step ((Below.refl w97.heap.size w97).alloc (Nat.le_refl _) (.cells #[.int .i64 z, .slice A97 r k97] 27)) F_97.lt
  have O_98 := O_97.alloc (.cells #[.int .i64 z, .slice A97 r k97] 27)
  have Z_98 := Z_97.alloc (.cells #[.int .i64 z, .slice A97 r k97] 27)
  go_upto_region 25 with (fail)
  rw [← hW98] at F_98 O_98 Z_98 V_98 ⊢
  clear hW98
  clear Fa Fb Oa Ob Ol Za Zb Zl
  clear F_97 O_97 Z_97
  have Fa := F_98.c0
  have Fb := F_98.c1
  have Oa := O_98.c0
  have Ob := O_98.c1
  have Ol := O_98.lt
  have Za := Z_98.c0
  have Zb := Z_98.c1
  have Zl := Z_98.lt
  have Va := V_98.c0
  have Vb := V_98.c1
  have Vl := V_98.lt
  go_wp2_with fail
  clear Fa Fb Oa Ob Ol Za Zb Zl Va Vb Vl
  refine (HER.out _ _ _ _ _ V_98.ints O_98.ints).mono ?_
  rintro e99 w99 ⟨rfl, hb99⟩
  have F_99 := F_98.step hb99 F_98.lt
  have O_99 := O_98.next hb99
  have Z_99 := Z_98.next hb99
  have V_99 := V_98.next hb99
  clear F_98 O_98 Z_98 V_98
  have Fa := F_99.c0
  have Fb := F_99.c1
  have Oa := O_99.c0
  have Ob := O_99.c1
  have Ol := O_99.lt
  have Za := Z_99.c0
  have Zb := Z_99.c1
  have Zl := Z_99.lt
  have Va := V_99.c0
  have Vb := V_99.c1
  have Vl := V_99.lt
  go_wp2_with fail
  clear Fa Fb Oa Ob Ol Za Zb Zl Va Vb Vl
  refine (heldFamily_any _ _ _ _ _ _ Z_99.ints lR (by omega) (by omega)).mono ?_
  rintro e100 w100 ⟨rfl, hb100⟩
  have F_100 := F_99.step hb100 F_99.lt
  have O_100 := O_99.next hb100
  have Z_100 := Z_99.next hb100
  have V_100 := V_99.next hb100
  clear F_99 O_99 Z_99 V_99
  have Fa := F_100.c0
  have Fb := F_100.c1
  have Oa := O_100.c0
  have Ob := O_100.c1
  have Ol := O_100.lt
  have Za := Z_100.c0
  have Zb := Z_100.c1
  have Zl := Z_100.lt
  have Va := V_100.c0
  have Vb := V_100.c1
  have Vl := V_100.lt
  go_wp2_with fail
  go_returns
  exact ⟨rfl, F_100.below⟩

namespace fnExactPathFamily
open Go.ChangeShapes Go.WideShapes Go.ChangeAt Go.RowKit Go.Deep Go.Joins
set_option linter.unusedVariables false
set_option maxRecDepth 100000 in
theorem lifted (os : Os) (started : os.Started) (H : Type) (enc : TypeId × Value → H) :
    ReturnsInHanded {} Try.checked os 10 .any (Rows.fnExactPathFamilySpec.pre6 enc Try.prog Try.f10 Rows.fnExactPathFamilyRow.domain false) (Rows.fnExactPathFamilySpec.post enc Try.prog Try.f10 false true false false) := by
  refine returnsInHanded_of_change (C := Try.checked) own started (by kernel_rfl) Try.func10
    (ChangeSpec.witness6 (enc := enc) (C := Try.checked) false ⟨#[], #[.agg #[.int .i64 0, .slice none 0 0], .int .i64 0, .int .i64 0], []⟩ 8 (by kernel_rfl) (by kernel_rfl) (by kernel_rfl) (by kernel_rfl)) ?_
  intro W base args ds gs before hval0 hW hcnd _
  have hval : ∀ (j : Nat) t v, Try.f10.params[j]? = some t → args[j]? = some v → Value.okWide Try.prog W .any base t v := hval0
  have hW' := hW
  obtain ⟨p, q, hA0, hV, rfl, hfz, hnd⟩ := hW
  have hA : DataW.TrodAll enc Try.prog W 0 (fun _ => true) true Try.f10.params.toList args.toList ds p := hA0
  rw [Try.params10] at hA hval
  obtain ⟨v0, vs0, d0, ds0, p0, q0, hargs, rfl, rfl, h0, r0⟩ := trodAll_cons hA
  obtain ⟨v1, vs1, d1, ds1, p1, q1, rfl, rfl, rfl, h1, r1⟩ := trodAll_cons r0
  obtain ⟨v2, vs2, d2, ds2, p2, q2, rfl, rfl, rfl, h2, r2⟩ := trodAll_cons r1
  obtain ⟨rfl, rfl, rfl⟩ := trodAll_nil r2
  obtain rfl : args = #[v0, v1, v2] := by cases args; simp_all
  obtain ⟨rfl, rfl⟩ := trodVars_none hV
  have k0 := h0
  have lt0 : ∀ x ∈ p0, x.block < W.heap.size := by obtain ⟨m, hm⟩ := k0; exact DataW.trod_lt m _ _ _ hm
  obtain ⟨n0, A0, c0, es0, rfl, he0, hl0, wf0⟩ := open_net (hval 0 48 v0 rfl rfl) h0
  obtain ⟨a1, rfl, rfl, rfl, w1⟩ := open_int Try.underlying3 (hval 1 3 v1 rfl rfl) h1
  obtain ⟨a2, rfl, rfl, rfl, w2⟩ := open_int Try.underlying3 (hval 2 3 v2 rfl rfl) h2
  clear hA0 hval0
  refine (exPathFamily_walk n0 A0 c0 es0 a1 a2 W he0 hl0 wf0 w1 w2).mono fun e W' ⟨he, bel⟩ => ?_
  subst he
  exact ⟨_, rfl, _, _, _, [], _, [], hW', trodAll_mk1 (shut_bool Try.underlying4 _), (trodAll_cons_mk (Below.trod laidOut (by kernel_rfl) (of_decide_eq_true (by kernel_rfl)) k0 bel lt0) (trodAll_cons_mk (shut_int Try.underlying3 w1) (trodAll_cons_mk (shut_int Try.underlying3 w2) trodAll_mk0))), rfl, bel.frame _, fun h => by cases h⟩

theorem holds : Rows.FnExactPathFamilySaid :=
  OpenClaim.holds_of_wide 10 Try.f10 rfl rfl rfl rfl rfl rfl rfl ⟨rfl, rfl, rfl, rfl, rfl⟩ rfl rfl rfl rfl rfl (by kernel_rfl) Try.func10 (by kernel_rfl)
    (of_decide_eq_true (by kernel_rfl)) (by unfold Func.isWrapper; first | (rw [if_pos (by decide +kernel)]; kernel_rfl) | (rw [if_neg (by decide +kernel)]; exact ⟨rfl, rfl⟩))
    (fun os started H enc _ => lifted os started H enc)
end fnExactPathFamily
end Go.Proofs.Ytmdmmebekicpkaa
