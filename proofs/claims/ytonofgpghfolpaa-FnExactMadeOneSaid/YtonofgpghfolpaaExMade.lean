/- The exact law of MadeOne holds: the program answers as the reference does, leaves its argument alone, and shares no memory with it or with another call's answer. -/
import Derived.Test.YtonofgpghfolpaaMadeF
import Derived.Test.YtonofgpghfolpaaMark
import Derived.Test.YtonofgpghfolpaaEq
import Derived.Test.YtonofgpghfolpaaShell
import Derived.Deep.RegionHeld3
import Derived.Deep.DeepCutAuto
namespace Go.Proofs.Ytonofgpghfolpaa
open Go.RowKit

/-- A net in a box (block bx) of the law's, its edges in a row of its own below the box, from block 'base' on. -/
structure NetObj (u : World) (base bx : Nat) (n : Int) (A : Option Addr) (c : Nat) (es : List (Int × Int)) : Prop where
  own : OwnE u base (.slice A es.length c) es
  c0 : u.cell? ⟨bx, 0, none⟩ = some (.int .i64 n)
  c1 : u.cell? ⟨bx, 1, none⟩ = some (.slice A es.length c)
  lt : bx < u.heap.size
  row : ∀ j, (Value.slice A es.length c).ownBlock = some j → base ≤ j ∧ j < bx
section
variable {u u' : World} {base bx : Nat} {n : Int} {A : Option Addr} {c : Nat} {es : List (Int × Int)}
theorem NetObj.start (t : TypeId) (own : OwnE u base (.slice A es.length c) es) : NetObj (u.alloc (.cells #[.int .i64 n, .slice A es.length c] t)) base u.heap.size n A c es :=
  ⟨own.below ((Below.refl u.heap.size u).alloc (Nat.le_refl _) _) own.lt, by rw [World.cell?_alloc_at _ _ _ _ rfl]; rfl, by rw [World.cell?_alloc_at _ _ _ _ rfl]; rfl, by simp, fun j hj => World.ownsRow.lt own j hj⟩
theorem NetObj.step {B : Nat} (h : NetObj u base bx n A c es) (hb : Below B u u') (hB : bx < B) : NetObj u' base bx n A c es :=
  ⟨h.own.below hb (fun j hj => by have := (h.row j hj).2; omega), (hb.cell (p := ⟨bx, 0, none⟩) hB).trans h.c0, (hb.cell (p := ⟨bx, 1, none⟩) hB).trans h.c1, Nat.lt_of_lt_of_le h.lt hb.size, h.row⟩
theorem NetObj.grown {r : Option Nat} (h : NetObj u base bx n A c es) (hg : u.grownBy u' r) (h1 : r ≠ some bx) (h2 : ∀ j, (Value.slice A es.length c).ownBlock = some j → some j ≠ r) : NetObj u' base bx n A c es := by
  have e : u'.heap[bx]? = u.heap[bx]? := hg.block bx h.lt (fun e => h1 e.symm)
  refine ⟨World.ownsRow.kept h.own hg ?_, (World.cell?_of_block (a := ⟨bx, 0, none⟩) e).trans h.c0, (World.cell?_of_block (a := ⟨bx, 1, none⟩) e).trans h.c1, Nat.lt_of_lt_of_le h.lt hg.size, h.row⟩
  cases ho : (Value.slice A es.length c).ownBlock with
  | none => exact .inl rfl
  | some j => exact .inr (h2 j ho)
theorem NetObj.edges (h : NetObj u base bx n A c es) : EdgesIn u u.heap.size A es := h.own.edges
theorem ArgNet.grown {w : World} {r : Option Nat} {cap : Nat} (h : ArgNet w u n A cap es) (hg : u.grownBy u' r) (hr : ∀ j, r = some j → w.heap.size < j) : ArgNet w u' n A cap es := by
  have hb : Below (w.heap.size + 1) u u' := ⟨hg.os, hg.tape, hg.output, hg.size, fun k hk => hg.block k (by have := h.lt; omega) (fun e => by have := hr k e.symm; omega)⟩
  exact h.step hb (by omega)
end

set_option maxRecDepth 100000 in
set_option maxHeartbeats 4000000 in
theorem exMadeOne_walk (n : Int) (A : Option Addr) (cap : Nat) (es : List (Int × Int)) (a1 : Int) (w : World) (hes : EdgesIn w w.heap.size A es) (hl : es.length ≤ maxLen) (_wf : (Lit.int .i64 n).wf = true) (_w1 : (Lit.int .i64 a1).wf = true) :
    Calls Try.prog 9 #[.agg #[.int .i64 n, .slice A es.length cap], .int .i64 a1] w fun e w' => e = .returned (.bool true) ∧ Below w.heap.size w w' := by
  by_cases hbig : (1048576 : Int) < es.length
  · go_enter Try.func9, Try.ntmps9
    unfold maxLen at hl
    go_wp2_with fail
    refine (szNet_big _ _ _ _ _ hl (by omega)).mono ?_
    rintro e1 w1 ⟨rfl, hb1⟩
    go_wp2
    go_returns
    exact ⟨rfl, ((Below.refl _ _).alloc (Nat.le_refl _) _).trans (hb1.mono (by simp))⟩
  · have hl' : es.length ≤ 1048576 := by omega
    have hle : (mE n es a1).length ≤ es.length := by
      unfold mE
      split
      · exact madeL_le _ _
      · simp
    generalize hn' : mN n es a1 = n' at *
    generalize hes' : mE n es a1 = es' at *
    generalize hlf' : mL n es a1 = lft at *
    generalize hb' : mOk n es a1 = b at *
    have hle' : es'.length ≤ 1048576 := by omega
    have hspec : ∀ (A : Option Addr) (cap : Nat) (w : World), EdgesIn w w.heap.size A es → Calls Try.prog 17 #[.agg #[.int .i64 n, .slice A es.length cap], .int .i64 a1] w (GotMade w n' es' lft b) := fun A cap w h => by
      rw [← hn', ← hes', ← hlf', ← hb']; exact specMadeOne_any n a1 A cap es w h hl'
    have himpl : ∀ (A : Option Addr) (cap : Nat) (w : World), EdgesIn w w.heap.size A es → Calls Try.prog 16 #[.agg #[.int .i64 n, .slice A es.length cap], .int .i64 a1] w (GotMade w n' es' lft b) := fun A cap w h => by
      rw [← hn', ← hes', ← hlf', ← hb']; exact madeOne_any n a1 A cap es w h hl'
    have HS := Lib.hid hspec
    have HI := Lib.hid himpl
    clear hspec himpl hn' hes' hlf' hb' hbig hl hle
    go_enter Try.func9, Try.ntmps9
    go_wp2_with fail
    refine (szNet_small _ _ _ _ _ hl').mono ?_
    rintro e1 w1 ⟨rfl, hb1⟩
    have L1 := (ArgNet.start 44 hes).step hb1 (by simp)
    clear hb1 hes
    have c0 := L1.c0
    have c1 := L1.c1
    go_wp2_with fail
    refine (toNet_any _ _ _ _ _ L1.edges hl').mono ?_
    rintro e2 w2 ⟨g2, rfl, own2, hb2⟩
    have L2 := L1.step hb2 L1.lt
    clear c0 c1 L1 hb2
    go_wp2_with fail
    refine (HS.out _ _ _ own2.edges).mono ?_
    rintro e3 w3 ⟨A3, k3, rfl, own3, hb3⟩
    have L3 := L2.step hb3 L2.lt
    have s23 := hb3.size
    have l2 := L2.lt
    clear own2 L2 hb3
    have O3 := NetObj.start (n := n') 25 own3
    have L4 := L3.step ((Below.refl _ _).alloc (Nat.le_refl _) (.cells #[.int .i64 n', .slice A3 es'.length k3] 25)) L3.lt
    have c0 := L3.c0
    have c1 := L3.c1
    have l3 := L3.lt
    clear L3 own3
    obtain ⟨W4, hW4⟩ : ∃ W4, W4 = w3.alloc (.cells #[.int .i64 n', .slice A3 es'.length k3] 25) := ⟨_, rfl⟩
    go_wp2_with fail
    rw [← hW4] at O3 L4 ⊢
    have s4 : w3.heap.size < W4.heap.size := by rw [hW4]; simp
    clear hW4 c0 c1
    refine (toNet_any _ _ _ _ _ L4.edges hl').mono ?_
    rintro e5 w5 ⟨g5, rfl, own5, hb5⟩
    have L5 := L4.step hb5 L4.lt
    have O5 := O3.step hb5 s4
    have s45 := hb5.size
    clear L4 O3 hb5
    have X5 := NetObj.start (n := n) 25 own5
    have L6 := L5.step ((Below.refl _ _).alloc (Nat.le_refl _) (.cells #[.int .i64 n, .slice (some ⟨g5, 0, none⟩) es.length es.length] 25)) L5.lt
    have O6 := O5.step ((Below.refl _ _).alloc (Nat.le_refl _) (.cells #[.int .i64 n, .slice (some ⟨g5, 0, none⟩) es.length es.length] 25)) (by omega)
    clear L5 O5 own5
    obtain ⟨W6, hW6⟩ : ∃ W6, W6 = w5.alloc (.cells #[.int .i64 n, .slice (some ⟨g5, 0, none⟩) es.length es.length] 25) := ⟨_, rfl⟩
    go_wp2_with fail
    rw [← hW6] at X5 L6 O6 ⊢
    have s6 : w5.heap.size < W6.heap.size := by rw [hW6]; simp
    clear hW6
    refine (HI.out _ _ _ X5.edges).mono ?_
    rintro e7 w7 ⟨A7, k7, rfl, own7, hb7⟩
    have L7 := L6.step hb7 L6.lt
    have O7 := O6.step hb7 (by omega)
    have X7 := X5.step hb7 s6
    have s67 := hb7.size
    clear L6 O6 X5 hb7
    have G7 := NetObj.start (n := n') 25 own7
    have hbx := (Below.refl w7.heap.size w7).alloc (Nat.le_refl _) (.cells #[.int .i64 n', .slice A7 es'.length k7] 25)
    have L8 := L7.step hbx L7.lt
    have O8 := O7.step hbx (by omega)
    have X8 := X7.step hbx (by omega)
    clear L7 O7 X7 own7 hbx
    obtain ⟨W8, hW8⟩ : ∃ W8, W8 = w7.alloc (.cells #[.int .i64 n', .slice A7 es'.length k7] 25) := ⟨_, rfl⟩
    go_upto_region 8 with (fail)
    rw [← hW8] at G7 L8 O8 X8 ⊢
    have s8 : w7.heap.size < W8.heap.size := by rw [hW8]; simp
    clear hW8
    generalize hb6 : w3.heap.size = b6 at *
    generalize hb8 : w5.heap.size = b8 at *
    generalize hb9 : w7.heap.size = b9 at *
    generalize hq4 : W4.heap.size = q4 at *
    generalize hq6 : W6.heap.size = q6 at *
    clear hb6 hb8 hb9 hq4 hq6
    have o0 := O8.c0
    have o1 := O8.c1
    have p0 := G7.c0
    have p1 := G7.c1
    go_wp2_with fail
    refine (eqNet_any _ _ _ _ _ _ _ _ _ G7.edges O8.edges hle' hle').mono ?_
    rintro e9 w9 ⟨rfl, hb9⟩
    rw [netEqB_self]
    have L9 := L8.step hb9 L8.lt
    have O9 := O8.step hb9 O8.lt
    have X9 := X8.step hb9 X8.lt
    have G9 := G7.step hb9 G7.lt
    clear hb9 L8 O8 X8 G7 o0 o1 p0 p1
    go_upto_region 10 with (fail)
    have c0 := L9.c0
    have c1 := L9.c1
    have x0 := X9.c0
    have x1 := X9.c1
    have LD := L9.drew
    have OD := O9.step ((Below.refl (b9 + 1) w9).drew) (by omega)
    have XD := X9.step ((Below.refl (b9 + 1) w9).drew) (by omega)
    have GD := G9.step ((Below.refl (b9 + 1) w9).drew) (by omega)
    go_wp2_with fail
    go_region_held3 (fun w' => w'.cell? ⟨w.heap.size, 0, none⟩ = some (.int .i64 n) ∧ w'.cell? ⟨w.heap.size, 1, none⟩ = some (.slice A es.length cap) ∧
        w'.cell? ⟨b8, 0, none⟩ = some (.int .i64 n) ∧ w'.cell? ⟨b8, 1, none⟩ = some (.slice (some ⟨g5, 0, none⟩) es.length es.length))
      (first | go_keep)
      (first
        | (go_at_call 40
           refine (toNet_any _ _ _ _ _ LD.edges hl').mono ?_
           rintro e10 w10 ⟨g10, rfl, own10, hb10⟩
           have LA := LD.step hb10 LD.lt
           have OA := OD.step hb10 OD.lt
           have XA := XD.step hb10 XD.lt
           have GA := GD.step hb10 GD.lt
           have y0 := LA.c0
           have y1 := LA.c1
           have y2 := XA.c0
           have y3 := XA.c1)
        | (go_at_call 41
           refine (eqNet_any _ _ _ _ _ _ _ _ _ XA.edges own10.edges hl' hl').mono ?_
           rintro e11 w11 ⟨rfl, hb11⟩
           have LB := LA.step hb11 LA.lt
           have OB := OA.step hb11 OA.lt
           have XB := XA.step hb11 XA.lt
           have GB := GA.step hb11 GA.lt
           have z0 := LB.c0
           have z1 := LB.c1
           have z2 := XB.c0
           have z3 := XB.c1))
    rw [netEqB_self]
    clear y0 y1 y2 y3 LA OA XA GA LD OD XD GD c0 c1 x0 x1 z0 z1 L9 O9 X9 G9 own10 hb10 hb11
    go_wp2_with fail
    refine (markNet_any _ _ _ _ _ _ _ XB.own hl' (by omega) (by omega) (by have := XB.lt; omega)).mono ?_
    rintro e12 w12 ⟨rfl, _, hg12⟩
    have xr := XB.row
    have gr := GB.row
    have or := OB.row
    have LC := LB.grown hg12 (fun j hj => by have := xr j hj; omega)
    have OC := OB.grown hg12 (fun e => by have := xr _ e; omega) (fun j hj e => by have h1 := xr _ e.symm; have h2 := or _ hj; omega)
    have GC := GB.grown hg12 (fun e => by have := xr _ e; omega) (fun j hj e => by have h1 := xr _ e.symm; have h2 := gr _ hj; omega)
    clear LB OB XB GB hg12 z2 z3
    have o0 := OC.c0
    have o1 := OC.c1
    have p0 := GC.c0
    have p1 := GC.c1
    go_wp2_with fail
    refine (eqNet_any _ _ _ _ _ _ _ _ _ GC.edges OC.edges hle' hle').mono ?_
    rintro e13 w13 ⟨rfl, hb13⟩
    rw [netEqB_self]
    have LD := LC.step hb13 LC.lt
    have OD := OC.step hb13 OC.lt
    have GD := GC.step hb13 GC.lt
    clear hb13 LC OC GC o0 o1 p0 p1
    have p0 := GD.c0
    have p1 := GD.c1
    go_wp2_with fail
    refine (markNet_any _ _ _ _ _ _ _ GD.own hle' (by omega) (by omega) (by have := GD.lt; omega)).mono ?_
    rintro e14 w14 ⟨rfl, own14, hg14⟩
    have LE := LD.grown hg14 (fun j hj => by have := gr j hj; omega)
    have OE := OD.grown hg14 (fun e => by have := gr _ e; omega) (fun j hj e => by have h1 := gr _ e.symm; have h2 := or _ hj; omega)
    have q0 : w14.cell? ⟨b9, 0, none⟩ = some (.int .i64 n') := hg14.cell GD.c0 (fun e => by have := gr _ e.symm; simp at this)
    have q1 : w14.cell? ⟨b9, 1, none⟩ = some (.slice A7 es'.length k7) := hg14.cell GD.c1 (fun e => by have := gr _ e.symm; simp at this)
    have GE : NetObj w14 q6 b9 n' A7 k7 (marks 1 es'.length) := ⟨by rw [marks_length]; exact own14, q0, by rw [marks_length]; exact q1, Nat.lt_of_lt_of_le GD.lt hg14.size, by rw [marks_length]; exact gr⟩
    clear LD OD GD hg14 own14 p0 p1
    go_wp2_with fail
    refine (heldNet_any _ _ _ _ _ _ GE.edges hle' (by omega) (by omega)).mono ?_
    rintro e15 w15 ⟨rfl, hb15⟩
    have LF := LE.step hb15 LE.lt
    have OF := OE.step hb15 OE.lt
    have GF := GE.step hb15 GE.lt
    clear hb15 LE OE GE q0 q1
    have c0 := LF.c0
    have c1 := LF.c1
    go_wp2_with fail
    refine (toNet_any _ _ _ _ _ LF.edges hl').mono ?_
    rintro e16 w16 ⟨g16, rfl, own16, hb16⟩
    have LG := LF.step hb16 LF.lt
    have OG := OF.step hb16 OF.lt
    have GG := GF.step hb16 GF.lt
    clear hb16 LF OF GF c0 c1
    go_wp2_with fail
    refine (HI.out _ _ _ own16.edges).mono ?_
    rintro e17 w17 ⟨A17, k17, rfl, own17, hb17⟩
    have LH := LG.step hb17 LG.lt
    have OH := OG.step hb17 OG.lt
    have GH := GG.step hb17 GG.lt
    clear hb17 LG OG GG own16
    have Q17 := NetObj.start (n := n') 25 own17
    have hbx := (Below.refl w17.heap.size w17).alloc (Nat.le_refl _) (.cells #[.int .i64 n', .slice A17 es'.length k17] 25)
    have LI := LH.step hbx LH.lt
    have OI := OH.step hbx OH.lt
    have GI := GH.step hbx GH.lt
    clear LH OH GH own17 hbx
    obtain ⟨W18, hW18⟩ : ∃ W18, W18 = w17.alloc (.cells #[.int .i64 n', .slice A17 es'.length k17] 25) := ⟨_, rfl⟩
    go_upto_region 25 with (fail)
    rw [← hW18] at Q17 LI OI GI ⊢
    clear hW18
    have o0 := OI.c0
    have o1 := OI.c1
    have p0 := Q17.c0
    have p1 := Q17.c1
    go_wp2_with fail
    refine (eqNet_any _ _ _ _ _ _ _ _ _ Q17.edges OI.edges hle' hle').mono ?_
    rintro e19 w19 ⟨rfl, hb19⟩
    rw [netEqB_self]
    have LJ := LI.step hb19 LI.lt
    have GJ := GI.step hb19 GI.lt
    clear hb19 LI OI GI Q17 o0 o1 p0 p1
    have p0 := GJ.c0
    have p1 := GJ.c1
    rw [marks_length] at p1
    go_wp2_with fail
    refine (heldNet_any _ _ _ _ _ _ GJ.edges hle' (by omega) (by omega)).mono ?_
    rintro e20 w20 ⟨rfl, hb20⟩
    have LK := LJ.step hb20 LJ.lt
    clear hb20
    go_wp2_with fail
    go_returns
    exact ⟨rfl, LK.below⟩

namespace fnExactMadeOne
open Go.ChangeShapes Go.WideShapes Go.ChangeAt Go.RowKit Go.Deep Go.Joins
set_option linter.unusedVariables false
set_option maxRecDepth 100000 in
theorem lifted (os : Os) (started : os.Started) (H : Type) (enc : TypeId × Value → H) :
    ReturnsInHanded {} Try.checked os 9 .any (Rows.fnExactMadeOneSpec.pre6 enc Try.prog Try.f9 Rows.fnExactMadeOneRow.domain false) (Rows.fnExactMadeOneSpec.post enc Try.prog Try.f9 false true false false) := by
  refine returnsInHanded_of_change (C := Try.checked) own started (by kernel_rfl) Try.func9
    (ChangeSpec.witness6 (enc := enc) (C := Try.checked) false ⟨#[], #[.agg #[.int .i64 0, .slice none 0 0], .int .i64 0], []⟩ 8 (by kernel_rfl) (by kernel_rfl) (by kernel_rfl) (by kernel_rfl)) ?_
  intro W base args ds gs before hval0 hW hcnd _
  have hval : ∀ (j : Nat) t v, Try.f9.params[j]? = some t → args[j]? = some v → Value.okWide Try.prog W .any base t v := hval0
  have hW' := hW
  obtain ⟨p, q, hA0, hV, rfl, hfz, hnd⟩ := hW
  have hA : DataW.TrodAll enc Try.prog W 0 (fun _ => true) true Try.f9.params.toList args.toList ds p := hA0
  rw [Try.params9] at hA hval
  obtain ⟨v0, vs0, d0, ds0, p0, q0, hargs, rfl, rfl, h0, r0⟩ := trodAll_cons hA
  obtain ⟨v1, vs1, d1, ds1, p1, q1, rfl, rfl, rfl, h1, r1⟩ := trodAll_cons r0
  obtain ⟨rfl, rfl, rfl⟩ := trodAll_nil r1
  obtain rfl : args = #[v0, v1] := by cases args; simp_all
  obtain ⟨rfl, rfl⟩ := trodVars_none hV
  have k0 := h0
  have lt0 : ∀ x ∈ p0, x.block < W.heap.size := by obtain ⟨m, hm⟩ := k0; exact DataW.trod_lt m _ _ _ hm
  obtain ⟨n0, A0, c0, es0, rfl, he0, hl0, wf0⟩ := open_net (hval 0 44 v0 rfl rfl) h0
  obtain ⟨a1, rfl, rfl, rfl, w1⟩ := open_int Try.underlying3 (hval 1 3 v1 rfl rfl) h1
  clear hA0 hval0
  refine (exMadeOne_walk n0 A0 c0 es0 a1 W he0 hl0 wf0 w1).mono fun e W' ⟨he, bel⟩ => ?_
  subst he
  exact ⟨_, rfl, _, _, _, [], _, [], hW', trodAll_mk1 (shut_bool Try.underlying4 _), (trodAll_cons_mk (Below.trod laidOut (by kernel_rfl) (of_decide_eq_true (by kernel_rfl)) k0 bel lt0) (trodAll_cons_mk (shut_int Try.underlying3 w1) trodAll_mk0)), rfl, bel.frame _, fun h => by cases h⟩

theorem holds : Rows.FnExactMadeOneSaid :=
  OpenClaim.holds_of_wide 9 Try.f9 rfl rfl rfl rfl rfl rfl rfl ⟨rfl, rfl, rfl, rfl, rfl⟩ rfl rfl rfl rfl rfl (by kernel_rfl) Try.func9 (by kernel_rfl)
    (of_decide_eq_true (by kernel_rfl)) (by unfold Func.isWrapper; first | (rw [if_pos (by decide +kernel)]; kernel_rfl) | (rw [if_neg (by decide +kernel)]; exact ⟨rfl, rfl⟩))
    (fun os started H enc _ => lifted os started H enc)
end fnExactMadeOne
end Go.Proofs.Ytonofgpghfolpaa
