/- The exact law of BothOf holds: the program answers as the reference does, leaves its arguments alone, and shares no memory with them or with another call's answer. -/
import Derived.Test.YtikmkdonbfngeaaTog2
import Derived.Test.YtikmkdonbfngeaaObj
namespace Go.Proofs.Ytikmkdonbfngeaa
open Go.ChangeShapes Go.WideShapes Go.ChangeAt Go.RowKit Go.Deep Go.Joins
set_option maxRecDepth 100000

theorem open_row {H : Type} {enc : TypeId × Value → H} {w : World} {base : Nat} {r : Reach} {b0 : Nat} {v : Value} {d : DataW H} {p : List MemPlace}
    (hv : Value.okWide Try.prog w r b0 28 v) (h : DataW.Trod enc Try.prog w base (fun _ => true) true 28 v d p) :
    ∃ (A : Option Addr) (cap : Nat) (xs : List Int), v = .slice A xs.length cap ∧ IntsIn w w.heap.size A xs ∧ xs.length ≤ maxLen := by
  obtain ⟨A, l, cap, rfl⟩ := okWide_slice Try.underlying28 hv
  obtain ⟨fuel, hf⟩ := h
  rcases open_ints Try.underlying28 Try.underlying3 (by kernel_rfl) hf with ⟨hcs, _⟩ | ⟨x, l', c', zs, hcs, _, hl, hm, hz, _, hcell, _⟩
  · simp [Value.cells] at hcs
    obtain ⟨rfl, rfl, rfl⟩ := hcs
    exact ⟨none, 0, [], rfl, IntsIn.nil, by simp [maxLen]⟩
  · simp [Value.cells] at hcs
    obtain ⟨rfl, rfl, rfl⟩ := hcs
    simp only [if_true] at hz
    have hlen : (zs.take l).length = l := by rw [List.length_take]; omega
    refine ⟨_, _, zs.take l, by rw [hlen], fun k y hk => ?_, by rw [hlen]; omega⟩
    have hkl : k < l := by have := (List.getElem?_eq_some_iff.1 hk).1; omega
    obtain ⟨b, off, spot⟩ := x
    have hs : spot = none := by simpa [Addr.add] using World.cell?_spot (hcell 0 (by omega))
    subst hs
    have hc := hcell k (by omega)
    rw [add_plain] at hc
    have hy : zs.getD k 0 = y := by
      rw [List.getElem?_take_of_lt hkl] at hk
      rw [List.getD_eq_getElem?_getD, hk]; rfl
    rw [hy] at hc
    exact ⟨b, off, rfl, World.block_lt_of_cell? w _ hc, hc⟩

theorem below_marked {B : Nat} {a b c : World} {r : Option Nat} (h : Below B a b) (hg : b.grownBy c r) (hr : ∀ j, r = some j → B ≤ j) (hB : B ≤ b.heap.size) : Below B a c :=
  h.trans ⟨hg.os, hg.tape, hg.output, hg.size, fun k hk => hg.block k (by omega) (fun e => by have := hr k e.symm; omega)⟩

set_option maxHeartbeats 4000000 in
theorem exBothOf_walk (A : Option Addr) (c : Nat) (xs : List Int) (B : Option Addr) (d : Nat) (ys : List Int) (w : World) (hA : IntsIn w w.heap.size A xs) (hl : xs.length ≤ maxLen) (hB : IntsIn w w.heap.size B ys) (hm : ys.length ≤ maxLen) :
    Calls Try.prog 12 #[.slice A xs.length c, .slice B ys.length d] w fun e w' => e = .returned (.bool true) ∧ Below w.heap.size w w' := by
  unfold maxLen at hl hm
  by_cases hbig : (1048576 : Int) < xs.length
  · go_enter Try.func12, Try.ntmps12
    go_wp2
    go_returns
    exact ⟨rfl, Below.refl _ _⟩
  · by_cases hbig2 : (1048576 : Int) < ys.length
    · go_enter Try.func12, Try.ntmps12
      go_wp2
      go_returns
      exact ⟨rfl, Below.refl _ _⟩
    · have lx : xs.length ≤ 1048576 := by omega
      have ly : ys.length ≤ 1048576 := by omega
      have hspec : ∀ (A B : Option Addr) (c d : Nat) (w : World), IntsIn w w.heap.size A xs → IntsIn w w.heap.size B ys → Calls Try.prog 41 #[.slice A xs.length c, .slice B ys.length d] w (GotInts w (bothL xs ys)) := fun A B c d w h1 h2 => specBothOf_any A B c d xs ys w h1 h2
      have himpl : ∀ (A B : Option Addr) (c d : Nat) (w : World), IntsIn w w.heap.size A xs → IntsIn w w.heap.size B ys → Calls Try.prog 34 #[.slice A xs.length c, .slice B ys.length d] w (GotInts w (bothL xs ys)) := fun A B c d w h1 h2 => bothOf_any A B c d xs ys w h1 h2 (by omega) (by omega)
      have hz : (bothL xs ys).length ≤ 60 := by
        unfold bothL
        split
        · next h => simp only [bothOkB, Bool.and_eq_true, decide_eq_true_eq] at h; rw [togL_length]; omega
        · simp
      generalize bothL xs ys = zs at *
      have lz : zs.length ≤ 1048576 := by omega
      have HS := Lib.hid hspec
      have HI := Lib.hid himpl
      clear hspec himpl hl hm hz
      have BB := Below.refl w.heap.size w
      go_enter Try.func12, Try.ntmps12
      go_wp2_with fail
      refine (toIntS_any _ _ _ _ ((hA.below BB (Nat.le_refl _)).more BB.size) lx).mono ?_
      rintro e1 w1 ⟨A1, k1, rfl, own1, hb1⟩
      have s1 := hb1.size
      have BB1 := BB.trans (hb1.mono BB.size)
      have P_1 := RowAt.start own1
      clear BB hb1 own1

      go_wp2_with fail
      refine (toIntS_any _ _ _ _ ((hB.below BB1 (Nat.le_refl _)).more BB1.size) ly).mono ?_
      rintro e2 w2 ⟨A2, k2, rfl, own2, hb2⟩
      have s2 := hb2.size
      have BB2 := BB1.trans (hb2.mono BB1.size)
      have P_2 := P_1.next hb2
      have Q_2 := RowAt.start own2
      clear BB1 hb2 P_1 own2

      go_wp2_with fail
      refine (HS.out _ _ _ _ _ P_2.ints Q_2.ints).mono ?_
      rintro e3 w3 ⟨A3, k3, rfl, own3, hb3⟩
      have s3 := hb3.size
      have BB3 := BB2.trans (hb3.mono BB2.size)
      have P_3 := P_2.next hb3
      have Q_3 := Q_2.next hb3
      have W_3 := RowAt.start own3
      clear BB2 hb3 P_2 Q_2 own3

      clear P_3 Q_3
      go_wp2_with fail
      refine (toIntS_any _ _ _ _ ((hA.below BB3 (Nat.le_refl _)).more BB3.size) lx).mono ?_
      rintro e4 w4 ⟨A4, k4, rfl, own4, hb4⟩
      have s4 := hb4.size
      have BB4 := BB3.trans (hb4.mono BB3.size)
      have W_4 := W_3.next hb4
      have X_4 := RowAt.start own4
      clear BB3 hb4 W_3 own4

      go_wp2_with fail
      refine (toIntS_any _ _ _ _ ((hB.below BB4 (Nat.le_refl _)).more BB4.size) ly).mono ?_
      rintro e5 w5 ⟨A5, k5, rfl, own5, hb5⟩
      have s5 := hb5.size
      have BB5 := BB4.trans (hb5.mono BB4.size)
      have W_5 := W_4.next hb5
      have X_5 := X_4.next hb5
      have Y_5 := RowAt.start own5
      clear BB4 hb5 W_4 X_4 own5

      go_wp2_with fail
      refine (HI.out _ _ _ _ _ X_5.ints Y_5.ints).mono ?_
      rintro e6 w6 ⟨A6, k6, rfl, own6, hb6⟩
      have s6 := hb6.size
      have BB6 := BB5.trans (hb6.mono BB5.size)
      have W_6 := W_5.next hb6
      have X_6 := X_5.next hb6
      have Y_6 := Y_5.next hb6
      have G_6 := RowAt.start own6
      clear BB5 hb6 W_5 X_5 Y_5 own6

      go_wp2_with fail
      refine (eqIntS_self _ _ _ _ _ _ _ G_6.ints W_6.ints rfl lz).mono ?_
      rintro e7 w7 ⟨rfl, hb7⟩
      have s7 := hb7.size
      have BB7 := BB6.trans (hb7.mono BB6.size)
      have W_7 := W_6.next hb7
      have X_7 := X_6.next hb7
      have Y_7 := Y_6.next hb7
      have G_7 := G_6.next hb7
      clear BB6 hb7 W_6 X_6 Y_6 G_6

      go_wp2_with fail
      refine (toIntS_any _ _ _ _ ((hA.below BB7 (Nat.le_refl _)).more BB7.size) lx).mono ?_
      rintro e8 w8 ⟨A8, k8, rfl, own8, hb8⟩
      have s8 := hb8.size
      have BB8 := BB7.trans (hb8.mono BB7.size)
      have W_8 := W_7.next hb8
      have X_8 := X_7.next hb8
      have Y_8 := Y_7.next hb8
      have G_8 := G_7.next hb8
      have T_8 := RowAt.start own8
      clear BB7 hb8 W_7 X_7 Y_7 G_7 own8

      go_wp2_with fail
      refine (eqIntS_self _ _ _ _ _ _ _ X_8.ints T_8.ints rfl lx).mono ?_
      rintro e9 w9 ⟨rfl, hb9⟩
      have s9 := hb9.size
      have BB9 := BB8.trans (hb9.mono BB8.size)
      have W_9 := W_8.next hb9
      have X_9 := X_8.next hb9
      have Y_9 := Y_8.next hb9
      have G_9 := G_8.next hb9
      have T_9 := T_8.next hb9
      clear BB8 hb9 W_8 X_8 Y_8 G_8 T_8

      clear T_9
      go_wp2_with fail
      refine (toIntS_any _ _ _ _ ((hB.below BB9 (Nat.le_refl _)).more BB9.size) ly).mono ?_
      rintro e10 w10 ⟨A10, k10, rfl, own10, hb10⟩
      have s10 := hb10.size
      have BB10 := BB9.trans (hb10.mono BB9.size)
      have W_10 := W_9.next hb10
      have X_10 := X_9.next hb10
      have Y_10 := Y_9.next hb10
      have G_10 := G_9.next hb10
      have T_10 := RowAt.start own10
      clear BB9 hb10 W_9 X_9 Y_9 G_9 own10

      go_wp2_with fail
      refine (eqIntS_self _ _ _ _ _ _ _ Y_10.ints T_10.ints rfl ly).mono ?_
      rintro e11 w11 ⟨rfl, hb11⟩
      have s11 := hb11.size
      have BB11 := BB10.trans (hb11.mono BB10.size)
      have W_11 := W_10.next hb11
      have X_11 := X_10.next hb11
      have Y_11 := Y_10.next hb11
      have G_11 := G_10.next hb11
      have T_11 := T_10.next hb11
      clear BB10 hb11 W_10 X_10 Y_10 G_10 T_10

      clear T_11
      go_wp2_with fail
      refine (markIntS_any _ _ _ _ _ _ _ X_11.own lx (by omega) (by omega)).mono ?_
      rintro e12 w12 ⟨rfl, own12, hg12⟩
      have s12 := hg12.size
      have gr12 := X_11.row
      have gg12 := X_11.own.ge
      have gl12 := X_11.le
      have gb12 := BB11.size
      have BB12 := below_marked BB11 hg12 (fun j hj => by have := gg12 j hj; omega) (by omega)
      have W_12 := W_11.grown hg12 (fun j hj => by have h1 := gg12 j hj; have h2 := gr12 j hj; omega)
      have Y_12 := Y_11.grown hg12 (fun j hj => by have h1 := gg12 j hj; have h2 := gr12 j hj; omega)
      have G_12 := G_11.grown hg12 (fun j hj => by have h1 := gg12 j hj; have h2 := gr12 j hj; omega)
      clear BB11 X_11 W_11 Y_11 G_11 own12 hg12 gr12 gg12

      go_wp2_with fail
      refine (markIntS_any _ _ _ _ _ _ _ Y_12.own ly (by omega) (by omega)).mono ?_
      rintro e13 w13 ⟨rfl, own13, hg13⟩
      have s13 := hg13.size
      have gr13 := Y_12.row
      have gg13 := Y_12.own.ge
      have gl13 := Y_12.le
      have gb13 := BB12.size
      have BB13 := below_marked BB12 hg13 (fun j hj => by have := gg13 j hj; omega) (by omega)
      have W_13 := W_12.grown hg13 (fun j hj => by have h1 := gg13 j hj; have h2 := gr13 j hj; omega)
      have G_13 := G_12.grown hg13 (fun j hj => by have h1 := gg13 j hj; have h2 := gr13 j hj; omega)
      clear BB12 Y_12 W_12 G_12 own13 hg13 gr13 gg13

      go_wp2_with fail
      refine (eqIntS_self _ _ _ _ _ _ _ G_13.ints W_13.ints rfl lz).mono ?_
      rintro e14 w14 ⟨rfl, hb14⟩
      have s14 := hb14.size
      have BB14 := BB13.trans (hb14.mono BB13.size)
      have W_14 := W_13.next hb14
      have G_14 := G_13.next hb14
      clear BB13 hb14 W_13 G_13

      go_wp2_with fail
      refine (markIntS_any _ _ _ _ _ _ _ G_14.own lz (by omega) (by omega)).mono ?_
      rintro e15 w15 ⟨rfl, own15, hg15⟩
      have s15 := hg15.size
      have gr15 := G_14.row
      have gg15 := G_14.own.ge
      have gl15 := G_14.le
      have gb15 := BB14.size
      have BB15 := below_marked BB14 hg15 (fun j hj => by have := gg15 j hj; omega) (by omega)
      have W_15 := W_14.grown hg15 (fun j hj => by have h1 := gg15 j hj; have h2 := gr15 j hj; omega)
      have G_15 : RowAt w15 _ _ _ (marksI 1 zs.length) := ⟨own15, gr15, Nat.le_trans gl15 hg15.size⟩
      clear BB14 G_14 W_14 own15 hg15 gr15 gg15

      go_wp2_with fail
      refine (heldIntS_any _ _ _ _ _ G_15.ints lz (by omega) (by omega)).mono ?_
      rintro e16 w16 ⟨rfl, rfl⟩

      go_wp2_with fail
      refine (toIntS_any _ _ _ _ ((hA.below BB15 (Nat.le_refl _)).more BB15.size) lx).mono ?_
      rintro e17 w17 ⟨A17, k17, rfl, own17, hb17⟩
      have s17 := hb17.size
      have BB17 := BB15.trans (hb17.mono BB15.size)
      have W_17 := W_15.next hb17
      have G_17 := G_15.next hb17
      have P_17 := RowAt.start own17
      clear BB15 hb17 W_15 G_15 own17

      go_wp2_with fail
      refine (toIntS_any _ _ _ _ ((hB.below BB17 (Nat.le_refl _)).more BB17.size) ly).mono ?_
      rintro e18 w18 ⟨A18, k18, rfl, own18, hb18⟩
      have s18 := hb18.size
      have BB18 := BB17.trans (hb18.mono BB17.size)
      have W_18 := W_17.next hb18
      have G_18 := G_17.next hb18
      have P_18 := P_17.next hb18
      have Q_18 := RowAt.start own18
      clear BB17 hb18 W_17 G_17 P_17 own18

      go_wp2_with fail
      refine (HI.out _ _ _ _ _ P_18.ints Q_18.ints).mono ?_
      rintro e19 w19 ⟨A19, k19, rfl, own19, hb19⟩
      have s19 := hb19.size
      have BB19 := BB18.trans (hb19.mono BB18.size)
      have W_19 := W_18.next hb19
      have G_19 := G_18.next hb19
      have P_19 := P_18.next hb19
      have Q_19 := Q_18.next hb19
      have H_19 := RowAt.start own19
      clear BB18 hb19 W_18 G_18 P_18 Q_18 own19

      clear P_19 Q_19
      go_wp2_with fail
      refine (eqIntS_self _ _ _ _ _ _ _ H_19.ints W_19.ints rfl lz).mono ?_
      rintro e20 w20 ⟨rfl, hb20⟩
      have s20 := hb20.size
      have BB20 := BB19.trans (hb20.mono BB19.size)
      have W_20 := W_19.next hb20
      have G_20 := G_19.next hb20
      have H_20 := H_19.next hb20
      clear BB19 hb20 W_19 G_19 H_19

      go_wp2_with fail
      refine (heldIntS_any _ _ _ _ _ G_20.ints lz (by omega) (by omega)).mono ?_
      rintro e21 w21 ⟨rfl, rfl⟩

      go_wp2_with fail
      go_returns
      exact ⟨rfl, BB20⟩

namespace fnExactBothOf
open Go.ChangeShapes Go.WideShapes Go.ChangeAt Go.RowKit Go.Deep Go.Joins
set_option linter.unusedVariables false
set_option maxRecDepth 100000 in
theorem lifted (os : Os) (started : os.Started) (H : Type) (enc : TypeId × Value → H) :
    ReturnsInHanded {} Try.checked os 12 .any (Rows.fnExactBothOfSpec.pre6 enc Try.prog Try.f12 Rows.fnExactBothOfRow.domain false) (Rows.fnExactBothOfSpec.post enc Try.prog Try.f12 false true false false) := by
  refine returnsInHanded_of_change (C := Try.checked) own started (by kernel_rfl) Try.func12
    (ChangeSpec.witness6 (enc := enc) (C := Try.checked) false ⟨#[], #[.slice none 0 0, .slice none 0 0], []⟩ 8 (by kernel_rfl) (by kernel_rfl) (by kernel_rfl) (by kernel_rfl)) ?_
  intro W base args ds gs before hval0 hW hcnd _
  have hval : ∀ (j : Nat) t v, Try.f12.params[j]? = some t → args[j]? = some v → Value.okWide Try.prog W .any base t v := hval0
  have hW' := hW
  obtain ⟨p, q, hA0, hV, rfl, hfz, hnd⟩ := hW
  have hA : DataW.TrodAll enc Try.prog W 0 (fun _ => true) true Try.f12.params.toList args.toList ds p := hA0
  rw [Try.params12] at hA hval
  obtain ⟨v0, vs0, d0, ds0, p0, q0, hargs, rfl, rfl, h0, r0⟩ := trodAll_cons hA
  obtain ⟨v1, vs1, d1, ds1, p1, q1, rfl, rfl, rfl, h1, r1⟩ := trodAll_cons r0
  obtain ⟨rfl, rfl, rfl⟩ := trodAll_nil r1
  obtain rfl : args = #[v0, v1] := by cases args; simp_all
  obtain ⟨rfl, rfl⟩ := trodVars_none hV
  have k0 := h0
  have lt0 : ∀ x ∈ p0, x.block < W.heap.size := by obtain ⟨m, hm⟩ := k0; exact DataW.trod_lt m _ _ _ hm
  obtain ⟨A0, c0, xs0, rfl, hb0, hl0⟩ := open_row (hval 0 28 v0 rfl rfl) h0
  have k1 := h1
  have lt1 : ∀ x ∈ p1, x.block < W.heap.size := by obtain ⟨m, hm⟩ := k1; exact DataW.trod_lt m _ _ _ hm
  obtain ⟨A1, c1, xs1, rfl, hb1, hl1⟩ := open_row (hval 1 28 v1 rfl rfl) h1
  clear hA0 hval0
  refine (exBothOf_walk A0 c0 xs0 A1 c1 xs1 W hb0 hl0 hb1 hl1).mono fun e W' ⟨he, bel⟩ => ?_
  subst he
  exact ⟨_, rfl, _, _, _, [], _, [], hW', trodAll_mk1 (shut_bool Try.underlying4 _), (trodAll_cons_mk (Below.trod laidOut (by kernel_rfl) (of_decide_eq_true (by kernel_rfl)) k0 bel lt0) (trodAll_cons_mk (Below.trod laidOut (by kernel_rfl) (of_decide_eq_true (by kernel_rfl)) k1 bel lt1) trodAll_mk0)), rfl, bel.frame _, fun h => by cases h⟩

theorem holds : Rows.FnExactBothOfSaid :=
  OpenClaim.holds_of_wide 12 Try.f12 rfl rfl rfl rfl rfl rfl rfl ⟨rfl, rfl, rfl, rfl, rfl⟩ rfl rfl rfl rfl rfl (by kernel_rfl) Try.func12 (by kernel_rfl)
    (of_decide_eq_true (by kernel_rfl)) (by unfold Func.isWrapper; first | (rw [if_pos (by decide +kernel)]; kernel_rfl) | (rw [if_neg (by decide +kernel)]; exact ⟨rfl, rfl⟩))
    (fun os started H enc _ => lifted os started H enc)
end fnExactBothOf

end Go.Proofs.Ytikmkdonbfngeaa
