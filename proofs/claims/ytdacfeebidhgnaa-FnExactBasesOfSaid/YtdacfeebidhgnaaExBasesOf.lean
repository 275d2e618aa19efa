/- The exact law of BasesOf holds: the program answers as the reference does, leaves its argument alone, and shares no memory with it or with another call's answer. -/
import Derived.Test.YtdacfeebidhgnaaSpec11a
import Derived.Test.YtdacfeebidhgnaaImpl11a
import Derived.Test.YtdacfeebidhgnaaObj
import Derived.Deep.RegionHeld3
import Derived.Deep.DeepCutAuto
namespace Go.Proofs.Ytdacfeebidhgnaa
open Go.RowKit
set_option maxRecDepth 100000

set_option maxHeartbeats 4000000 in
theorem exBasesOf_walk (n : Int) (A : Option Addr) (cap : Nat) (es : List (Int × Int)) (w : World) (hes : EdgesIn w w.heap.size A es) (hl : es.length ≤ maxLen) (_wf : (Lit.int .i64 n).wf = true) :
    Calls Try.prog 4 #[.agg #[.int .i64 n, .slice A es.length cap]] w fun e w' => e = .returned (.bool true) ∧ Below w.heap.size w w' := by
  by_cases hbig : (1048576 : Int) < es.length
  · go_enter Try.func4, Try.ntmps4
    unfold maxLen at hl
    go_wp2_with fail
    refine (szNet_big _ _ _ _ _ hl (by omega)).mono ?_
    rintro e1 w1 ⟨rfl, hb1⟩
    go_wp2
    go_returns
    exact ⟨rfl, ((Below.refl _ _).alloc (Nat.le_refl _) _).trans (hb1.mono (by simp))⟩
  · have hl' : es.length ≤ 1048576 := by omega
    have hxl := natBases_len n es
    have hspec : ∀ (A : Option Addr) (cap : Nat) (w : World), EdgesIn w w.heap.size A es → Calls Try.prog 20 #[.agg #[.int .i64 n, .slice A es.length cap]] w (GotInts w (natI (basesN n es))) := fun A cap w h => specBasesOf_any n A cap es w h hl'
    have himpl : ∀ (A : Option Addr) (cap : Nat) (w : World), EdgesIn w w.heap.size A es → Calls Try.prog 21 #[.agg #[.int .i64 n, .slice A es.length cap]] w (GotInts w (natI (basesN n es))) := fun A cap w h => basesOf_any n A cap es w h hl'
    generalize natI (basesN n es) = xs at *
    have hx' : xs.length ≤ 1048576 := by omega
    have HS := Lib.hid hspec
    have HI := Lib.hid himpl
    clear hspec himpl hbig hl
    go_enter Try.func4, Try.ntmps4
    go_wp2_with fail
    refine (szNet_small _ _ _ _ _ hl').mono ?_
    rintro e1 w1 ⟨rfl, hb1⟩
    have L1 := (ArgNet.start 24 hes).step hb1 (by simp)
    clear hb1 hes
    have c0 := L1.c0
    have c1 := L1.c1
    go_wp2_with fail
    refine (toNet_any _ _ _ _ _ L1.edges hl').mono ?_
    rintro e2 w2 ⟨g2, rfl, own2, hb2⟩
    have L2 := L1.step hb2 L1.lt
    clear c0 c1 L1 hb2
    go_wp2_with fail
    refine (HS.out _ _ _ own2.edges).mono ?_
    rintro e3 w3 ⟨A3, k3, rfl, own3, hb3⟩
    have L3 := L2.step hb3 L2.lt
    have O3 := RowAt.start own3
    have l2 := L2.lt
    have s23 := hb3.size
    clear own2 L2 hb3 own3
    have c0 := L3.c0
    have c1 := L3.c1
    go_wp2_with fail
    refine (toNet_any _ _ _ _ _ L3.edges hl').mono ?_
    rintro e4 w4 ⟨g4, rfl, own4, hb4⟩
    have L4 := L3.step hb4 L3.lt
    have O4 := O3.next hb4
    have s34 := hb4.size
    clear L3 O3 hb4 c0 c1
    have X5 := NetAt.start (n := n) 29 own4
    have hbx := (Below.refl w4.heap.size w4).alloc (Nat.le_refl _) (.cells #[.int .i64 n, .slice (some ⟨g4, 0, none⟩) es.length es.length] 29)
    have L5 := L4.step hbx L4.lt
    have O5 := O4.next hbx
    clear L4 O4 own4 hbx
    obtain ⟨W5, hW5⟩ : ∃ W5, W5 = w4.alloc (.cells #[.int .i64 n, .slice (some ⟨g4, 0, none⟩) es.length es.length] 29) := ⟨_, rfl⟩
    go_upto_region 7 with (fail)
    rw [← hW5] at X5 L5 O5 ⊢
    have s45 : w4.heap.size < W5.heap.size := by rw [hW5]; simp
    clear hW5
    have x0 := X5.c0
    have x1 := X5.c1
    go_wp2_with fail
    refine (HI.out _ _ _ X5.edges).mono ?_
    rintro e6 w6 ⟨A6, k6, rfl, own6, hb6⟩
    have L6 := L5.step hb6 L5.lt
    have O6 := O5.next hb6
    have X6 := X5.step hb6 s45
    have G6 := RowAt.start own6
    have s56 := hb6.size
    clear L5 O5 X5 hb6 own6 x0 x1
    generalize hb2 : w2.heap.size = b2 at *
    generalize hb3 : w3.heap.size = b3 at *
    generalize hb4 : w4.heap.size = b4 at *
    generalize hb5 : W5.heap.size = b5 at *
    generalize hb6 : w6.heap.size = b6 at *
    clear hb2 hb3 hb4 hb5
    go_wp2_with fail
    refine (eqIntS_self _ _ _ _ _ _ _ G6.ints O6.ints rfl hx').mono ?_
    rintro e7 w7 ⟨rfl, hb7⟩
    have L7 := L6.step hb7 L6.lt
    have O7 := O6.next hb7
    have X7 := X6.step hb7 X6.lt
    have G7 := G6.step hb7 (by omega)
    clear hb7 L6 O6 X6 G6 hb6
    go_upto_region 10 with (fail)
    have c0 := L7.c0
    have c1 := L7.c1
    have x0 := X7.c0
    have x1 := X7.c1
    have LD := L7.drew
    have OD := O7.step ((Below.refl w7.heap.size w7).drew) O7.le
    have XD := X7.step ((Below.refl w7.heap.size w7).drew) X7.lt
    have GD := G7.step ((Below.refl w7.heap.size w7).drew) G7.le
    clear L7 O7 X7 G7
    go_wp2_with fail
    go_region_held3 (fun w' => w'.cell? ⟨w.heap.size, 0, none⟩ = some (.int .i64 n) ∧ w'.cell? ⟨w.heap.size, 1, none⟩ = some (.slice A es.length cap) ∧
        w'.cell? ⟨b4, 0, none⟩ = some (.int .i64 n) ∧ w'.cell? ⟨b4, 1, none⟩ = some (.slice (some ⟨g4, 0, none⟩) es.length es.length))
      (first | go_keep)
      (first
        | (go_at_call 17
           refine (toNet_any _ _ _ _ _ LD.edges hl').mono ?_
           rintro e10 w10 ⟨g10, rfl, own10, hb10⟩
           have LA := LD.step hb10 LD.lt
           have OA := OD.next hb10
           have XA := XD.step hb10 XD.lt
           have GA := GD.next hb10
           have y0 := LA.c0
           have y1 := LA.c1
           have y2 := XA.c0
           have y3 := XA.c1)
        | (go_at_call 19
           refine (eqNet_any _ _ _ _ _ _ _ _ _ XA.edges own10.edges hl' hl').mono ?_
           rintro e11 w11 ⟨rfl, hb11⟩
           have LB := LA.step hb11 LA.lt
           have OB := OA.next hb11
           have XB := XA.step hb11 XA.lt
           have GB := GA.next hb11
           have z0 := LB.c0
           have z1 := LB.c1
           have z2 := XB.c0
           have z3 := XB.c1))
    rw [netEqB_self]
    clear y0 y1 y2 y3 LA OA XA GA LD OD XD GD c0 c1 x0 x1 z0 z1 own10 hb10 hb11
    go_wp2_with fail
    refine (markNet_any _ _ _ _ _ _ _ XB.own hl' (by omega) (by omega) (by have := XB.lt; omega)).mono ?_
    rintro e12 w12 ⟨rfl, _, hg12⟩
    have xr := XB.row
    have LC := LB.grownBy hg12 (fun j hj => by have := xr j hj; omega)
    have OC := OB.grown hg12 (fun j hj => by have := xr j hj; omega)
    have GC := GB.grown hg12 (fun j hj => by have := xr j hj; omega)
    clear LB OB XB GB hg12 z2 z3
    go_wp2_with fail
    refine (eqIntS_self _ _ _ _ _ _ _ GC.ints OC.ints rfl hx').mono ?_
    rintro e13 w13 ⟨rfl, hb13⟩
    have LD := LC.step hb13 LC.lt
    have OD := OC.next hb13
    have GD := GC.next hb13
    clear hb13 LC OC GC
    go_wp2_with fail
    refine (markIntS_any _ _ _ _ _ _ _ GD.own hx' (by omega) (by omega)).mono ?_
    rintro e14 w14 ⟨rfl, own14, hg14⟩
    have gr := GD.row
    have gg := GD.own.ge
    have LE := LD.grownBy hg14 (fun j hj => by have := gg j hj; omega)
    have OE := OD.grown hg14 (fun j hj => by have := gg j hj; omega)
    have GE : RowAt w14 b5 b6 (.slice A6 xs.length k6) (marksI 1 xs.length) := ⟨own14, gr, Nat.le_trans GD.le hg14.size⟩
    clear LD OD GD hg14 own14
    go_wp2_with fail
    refine (heldIntS_any _ _ _ _ _ GE.ints hx' (by omega) (by omega)).mono ?_
    rintro e15 w15 ⟨rfl, rfl⟩
    have c0 := LE.c0
    have c1 := LE.c1
    go_wp2_with fail
    refine (toNet_any _ _ _ _ _ LE.edges hl').mono ?_
    rintro e16 w16 ⟨g16, rfl, own16, hb16⟩
    have LG := LE.step hb16 LE.lt
    have OG := OE.next hb16
    have GG := GE.next hb16
    clear hb16 LE OE GE c0 c1
    go_wp2_with fail
    refine (HI.out _ _ _ own16.edges).mono ?_
    rintro e17 w17 ⟨A17, k17, rfl, own17, hb17⟩
    have LH := LG.step hb17 LG.lt
    have OH := OG.next hb17
    have GH := GG.next hb17
    clear hb17 LG OG GG own16
    go_wp2_with fail
    refine (eqIntS_self _ _ _ _ _ _ _ own17.ints OH.ints rfl hx').mono ?_
    rintro e19 w19 ⟨rfl, hb19⟩
    have LJ := LH.step hb19 LH.lt
    have GJ := GH.next hb19
    clear hb19 LH OH GH own17
    go_wp2_with fail
    refine (heldIntS_any _ _ _ _ _ GJ.ints hx' (by omega) (by omega)).mono ?_
    rintro e20 w20 ⟨rfl, rfl⟩
    go_wp2_with fail
    go_returns
    exact ⟨rfl, LJ.below⟩

namespace fnExactBasesOf
open Go.ChangeShapes Go.WideShapes Go.ChangeAt Go.RowKit Go.Deep Go.Joins
set_option linter.unusedVariables false
set_option maxRecDepth 100000 in
theorem lifted (os : Os) (started : os.Started) (H : Type) (enc : TypeId × Value → H) :
    ReturnsInHanded {} Try.checked os 4 .any (Rows.fnExactBasesOfSpec.pre6 enc Try.prog Try.f4 Rows.fnExactBasesOfRow.domain false) (Rows.fnExactBasesOfSpec.post enc Try.prog Try.f4 false true false false) := by
  refine returnsInHanded_of_change (C := Try.checked) own started (by kernel_rfl) Try.func4
    (ChangeSpec.witness6 (enc := enc) (C := Try.checked) false ⟨#[], #[.agg #[.int .i64 0, .slice none 0 0]], []⟩ 8 (by kernel_rfl) (by kernel_rfl) (by kernel_rfl) (by kernel_rfl)) ?_
  intro W base args ds gs before hval0 hW hcnd _
  have hval : ∀ (j : Nat) t v, Try.f4.params[j]? = some t → args[j]? = some v → Value.okWide Try.prog W .any base t v := hval0
  have hW' := hW
  obtain ⟨p, q, hA0, hV, rfl, hfz, hnd⟩ := hW
  have hA : DataW.TrodAll enc Try.prog W 0 (fun _ => true) true Try.f4.params.toList args.toList ds p := hA0
  rw [Try.params4] at hA hval
  obtain ⟨v0, vs0, d0, ds0, p0, q0, hargs, rfl, rfl, h0, r0⟩ := trodAll_cons hA
  obtain ⟨rfl, rfl, rfl⟩ := trodAll_nil r0
  obtain rfl : args = #[v0] := by cases args; simp_all
  obtain ⟨rfl, rfl⟩ := trodVars_none hV
  have k0 := h0
  have lt0 : ∀ x ∈ p0, x.block < W.heap.size := by obtain ⟨m, hm⟩ := k0; exact DataW.trod_lt m _ _ _ hm
  obtain ⟨n0, A0, c0, es0, rfl, he0, hl0, wf0⟩ := open_net (hval 0 24 v0 rfl rfl) h0
  clear hA0 hval0
  refine (exBasesOf_walk n0 A0 c0 es0 W he0 hl0 wf0).mono fun e W' ⟨he, bel⟩ => ?_
  subst he
  exact ⟨_, rfl, _, _, _, [], _, [], hW', trodAll_mk1 (shut_bool Try.underlying4 _), (trodAll_cons_mk (Below.trod laidOut (by kernel_rfl) (of_decide_eq_true (by kernel_rfl)) k0 bel lt0) trodAll_mk0), rfl, bel.frame _, fun h => by cases h⟩

theorem holds : Rows.FnExactBasesOfSaid :=
  OpenClaim.holds_of_wide 4 Try.f4 rfl rfl rfl rfl rfl rfl rfl ⟨rfl, rfl, rfl, rfl, rfl⟩ rfl rfl rfl rfl rfl (by kernel_rfl) Try.func4 (by kernel_rfl)
    (of_decide_eq_true (by kernel_rfl)) (by unfold Func.isWrapper; first | (rw [if_pos (by decide +kernel)]; kernel_rfl) | (rw [if_neg (by decide +kernel)]; exact ⟨rfl, rfl⟩))
    (fun os started H enc _ => lifted os started H enc)
end fnExactBasesOf

end Go.Proofs.Ytdacfeebidhgnaa
