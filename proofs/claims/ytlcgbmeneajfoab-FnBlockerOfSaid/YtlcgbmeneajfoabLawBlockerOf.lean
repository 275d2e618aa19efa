/- The law FnBlockerOf holds of every code: a state blocks a family exactly if the other things are not in it, and what blocks the blocker is the family. -/
import Derived.Test.YtlcgbmeneajfoabBytes
import Derived.Test.YtlcgbmeneajfoabDraw8
import Derived.Test.YtlcgbmeneajfoabImpl8f
import Derived.Test.YtlcgbmeneajfoabFamO
import Derived.Test.YtlcgbmeneajfoabSameFam
namespace Go.Proofs.Ytlcgbmeneajfoab
open Go.RowKit
set_option maxRecDepth 100000

set_option maxHeartbeats 4000000 in
theorem blockerOf_law (A : Option Addr) (cap l : Nat) (w : World) (hb : BytesIn w w.heap.size A l) (hc : l ≤ cap) :
    Calls Try.prog 4 #[.slice A l cap] w fun e w' => e = .returned (.bool true) ∧ Below w.heap.size w w' := by
  by_cases hbig : 1048576 < l
  · go_enter Try.func4, Try.ntmps4
    go_wp2
    go_returns
    exact ⟨rfl, Below.refl _ _⟩
  have hl : l ≤ 1048576 := by omega
  clear hbig
  have HI : Hid (∀ (u : World) (t : Int) (A : Option Addr) (c m : Nat) (xs : List Int) (z : Int) (r : Nat) (ys : List Int) (v : Bool), blT t xs = z → blL t xs = ys → ys.length = r → famOkB t xs = v → xs.length = m → m ≤ 65 → IntsIn u u.heap.size A xs → Calls Try.prog 19 #[.agg #[.int .i64 t, .slice A m c]] u (GotM u z r ys v)) := fun u t A c m xs z r ys v hz hy hr hv hm hl hi => by
    subst hz hy hv hm
    exact (blocker_any t A c xs u hi (by omega)).mono fun _ _ k => k.m hr
  have HS : Hid (∀ (u : World) (t : Int) (A : Option Addr) (c m : Nat) (xs : List Int) (z : Int) (r : Nat) (ys : List Int) (v : Bool), blT t xs = z → blL t xs = ys → ys.length = r → famOkB t xs = v → xs.length = m → m ≤ 65 → IntsIn u u.heap.size A xs → Calls Try.prog 21 #[.agg #[.int .i64 t, .slice A m c]] u (GotM u z r ys v)) := fun u t A c m xs z r ys v hz hy hr hv hm hl hi => by
    subst hz hy hv hm
    exact (specBlocker_any t A c xs u hi (by unfold maxLen; omega)).mono fun _ _ k => k.m hr
  have HO : Hid (∀ (u : World) (t : Int) (A : Option Addr) (c m : Nat) (xs : List Int) (v : Bool), famOkB t xs = v → xs.length = m → m ≤ 65 → IntsIn u u.heap.size A xs → Calls Try.prog 17 #[.agg #[.int .i64 t, .slice A m c]] u fun e w' => e = .returned (.bool v) ∧ Below u.heap.size u w') := fun u t A c m xs v hv hm hl hi => by
    subst hv hm; exact familyOk_any t A c xs u hi (by omega)
  have HN : Hid (∀ (u : World) (t : Int) (A : Option Addr) (c m : Nat) (xs : List Int) (s : Int) (v : Bool), famInI t xs s = v → xs.length = m → m ≤ 65 → IntsIn u u.heap.size A xs → Calls Try.prog 23 #[.agg #[.int .i64 t, .slice A m c], .int .i64 s] u fun e w' => e = .returned (.bool v) ∧ Below u.heap.size u w') := fun u t A c m xs s v hv hm hl hi => by
    subst hv hm; exact inOk_any t A c xs s u hi (by omega)
  have HJ : Hid (∀ (u : World) (t : Int) (A B : Option Addr) (c d m : Nat) (xs : List Int), xs.length = m → m ≤ 65 → IntsIn u u.heap.size A xs → IntsIn u u.heap.size B xs → Calls Try.prog 22 #[.agg #[.int .i64 t, .slice A m c], .agg #[.int .i64 t, .slice B m d]] u fun e w' => e = .returned (.bool true) ∧ Below u.heap.size u w') := fun u t A B c d m xs hm hl h1 h2 => sameFamily_self t A B c d m xs u h1 h2 hm (by omega)
  go_enter Try.func4, Try.ntmps4
  go_wp2_with fail
  refine (drawBlockerOf_any _ _ _ _ hb hl hc).mono ?_
  rintro e1 w1 ⟨t, A1, c1, xs, rfl, own, t0, t1, hx, BB1⟩
  have D0 := FamObj.start (t := t) 25 BB1.size own
  have BB2 := BB1.alloc BB1.size (.cells #[.int .i64 t, .slice A1 xs.length c1] 25)
  obtain ⟨m, hm⟩ : ∃ m, xs.length = m := ⟨_, rfl⟩
  rw [hm] at D0 BB2 hx ⊢
  obtain ⟨W, hW⟩ : ∃ W, W = w1.alloc (.cells #[.int .i64 t, .slice A1 m c1] 25) := ⟨_, rfl⟩
  have HM := Lib.hid hm
  clear hb hl hc own
  go_wp2_with fail
  rw [← hW] at D0 BB2 ⊢
  clear hW BB1
  generalize w1.heap.size = b at *
  cases hB : famOkB t xs with
  | false =>
    have HB := Lib.hid hB
    have HV : Hid (blT t xs = 0) := by unfold Hid blT; rw [hB]; rfl
    have HW : Hid (blL t xs = []) := by unfold Hid blL; rw [hB]; rfl
    clear hB hm
    refine (HI.out _ _ _ _ _ _ 0 0 [] false HV.out HW.out rfl HB.out HM.out hx D0.ints).mono ?_
    rintro e2 w2 ⟨A2, c2, rfl, own2, hb2⟩
    have D2 := (D0.next hb2).alloc (.cells #[.int .i64 0, .slice A2 0 c2] 25)
    have E2 := FamObj.start (t := 0) 25 hb2.size own2
    have BB3 := (BB2.trans (hb2.mono BB2.size)).alloc (by have h1 := hb2.size; have h2 := BB2.size; omega) (.cells #[.int .i64 0, .slice A2 0 c2] 25)
    obtain ⟨W2, hW2⟩ : ∃ W2, W2 = w2.alloc (.cells #[.int .i64 0, .slice A2 0 c2] 25) := ⟨_, rfl⟩
    have p0 := (D0.next hb2).c0
    have p1 := (D0.next hb2).c1
    have pl := (D0.next hb2).lt
    change FamObj (w2.alloc (.cells #[.int .i64 0, .slice A2 0 c2] 25)) _ _ _ 0 A2 0 c2 [] at E2
    clear own2
    go_wp2_with fail
    rw [← hW2] at D2 E2 BB3 ⊢
    clear hW2 D0 BB2 hb2 p0 p1 pl
    generalize w2.heap.size = b2 at *
    refine (HS.out _ _ _ _ _ _ 0 0 [] false HV.out HW.out rfl HB.out HM.out hx D2.ints).mono ?_
    rintro e3 w3 ⟨A3, c3, rfl, own3, hb3⟩
    have D3 := (D2.next hb3).alloc (.cells #[.int .i64 0, .slice A3 0 c3] 25)
    have E3 := (E2.next hb3).alloc (.cells #[.int .i64 0, .slice A3 0 c3] 25)
    have BB4 := (BB3.trans (hb3.mono BB3.size)).alloc (by have h1 := hb3.size; have h2 := BB3.size; omega) (.cells #[.int .i64 0, .slice A3 0 c3] 25)
    have p0 := (E2.next hb3).c0
    have p1 := (E2.next hb3).c1
    have pl := (E2.next hb3).lt
    clear own3 HS HN
    go_wp2_with fail
    clear p0 p1 pl D2 E2 hb3 BB3
    have p0 := E3.c0
    have p1 := E3.c1
    have pl := E3.lt
    refine (HJ.out _ 0 _ _ _ _ 0 [] rfl (by omega) IntsIn.nil IntsIn.nil).mono ?_
    rintro e4 w4 ⟨rfl, hb4⟩
    have D4 := D3.next hb4
    have E4 := E3.next hb4
    have BB5 := BB4.trans (hb4.mono BB4.size)
    clear p0 p1 pl D3 E3 hb4 BB4
    have p0 := E4.c0
    have p1 := E4.c1
    have pl := E4.lt
    go_wp2_with fail
    refine (HJ.out _ 0 _ _ _ _ 0 [] rfl (by omega) IntsIn.nil IntsIn.nil).mono ?_
    rintro e5 w5 ⟨rfl, hb5⟩
    have D5 := D4.next hb5
    have BB6 := BB5.trans (hb5.mono BB5.size)
    clear p0 p1 pl D4 E4 hb5 BB5
    have p0 := D5.c0
    have p1 := D5.c1
    have pl := D5.lt
    go_wp2_with fail
    refine (HO.out _ _ _ _ _ _ _ HB.out HM.out hx D5.ints).mono ?_
    rintro e6 w6 ⟨rfl, hb6⟩
    have BB7 := BB6.trans (hb6.mono BB6.size)
    clear p0 p1 pl D5 hb6 BB6
    go_wp2_with fail
    refine (alive_any _).mono ?_
    rintro e7 w7 ⟨rfl, hb7⟩
    go_wp2_with fail
    go_returns
    exact ⟨by first | rfl | simp, BB7.trans (hb7.mono BB7.size)⟩
  | true =>
    obtain ⟨T, ns, rfl, hT, rfl, hn⟩ := famOkB_iff.1 hB
    have HB := Lib.hid hB
    have hok2 := famBl_ok T (by omega) ns
    have HB2 := Lib.hid (famOk_of hT hok2)
    have HV : Hid (∀ zs, famOkB (T : Nat) zs = true → blT (T : Nat) zs = (T : Nat)) := fun zs hz => by unfold blT; rw [hz]; rfl
    have HW := Lib.hid (blL_of hT hn)
    have HW2 := Lib.hid ((blL_of hT hok2).trans (by rw [block_block (by omega) hn]))
    obtain ⟨r, hr⟩ : ∃ r, (natI (famBl T ns)).length = r := ⟨_, rfl⟩
    have hr64 : r ≤ 64 := by
      have h1 := hok2.len
      have h2 := pow_64 hT
      rw [← hr, natI_length]; omega
    have HR := Lib.hid hr
    have HNA : Hid (∀ s : Nat, s < 2 ^ T → famInI (T : Nat) (natI (famBl T ns)) (s : Nat) = !famB ns (rest T s)) := fun s hs => (inI_of hT hok2 hs).trans (famBl_in (by omega) ns hs)
    have HNB : Hid (∀ s : Nat, s < 2 ^ T → famInI (T : Nat) (natI ns) (((2 ^ T : Nat) : Int) - 1 - (s : Int)) = famB ns (rest T s)) := fun s hs => by
      rw [show ((2 ^ T : Nat) : Int) - 1 - (s : Int) = ((rest T s : Nat) : Int) by unfold rest; omega]
      exact inI_of hT hn (rest_lt _ _)
    obtain ⟨P, hP, p1', p2', hp3, hp4⟩ := pow_named12 (show T ≤ 13 by omega)
    have hP64 : P ≤ 64 := by rw [← hP]; exact pow_64 hT
    have hmin : min T 64 = T := by omega
    rw [hP] at HNA HNB
    clear hB hm hok2 hr hP hn
    generalize natI (famBl T ns) = ys at *
    generalize natI ns = xs at *
    generalize famB ns = fb at *
    refine (HI.out _ _ _ _ _ _ _ r ys true (HV.out _ HB.out) HW.out HR.out HB.out HM.out hx D0.ints).mono ?_
    rintro e2 w2 ⟨A2, c2, rfl, own2, hb2⟩
    have D2 := (D0.next hb2).alloc (.cells #[.int .i64 (T : Nat), .slice A2 r c2] 25)
    have E2 := FamObj.start (t := (T : Nat)) 25 hb2.size own2
    have BB3 := (BB2.trans (hb2.mono BB2.size)).alloc (by have h1 := hb2.size; have h2 := BB2.size; omega) (.cells #[.int .i64 (T : Nat), .slice A2 r c2] 25)
    obtain ⟨W2, hW2⟩ : ∃ W2, W2 = w2.alloc (.cells #[.int .i64 (T : Nat), .slice A2 r c2] 25) := ⟨_, rfl⟩
    have p0 := (D0.next hb2).c0
    have p1 := (D0.next hb2).c1
    have pl := (D0.next hb2).lt
    clear own2
    go_wp2_with fail
    rw [← hW2] at D2 E2 BB3 ⊢
    clear hW2 D0 BB2 hb2 p0 p1 pl
    generalize w2.heap.size = b2 at *
    refine (HS.out _ _ _ _ _ _ _ r ys true (HV.out _ HB.out) HW.out HR.out HB.out HM.out hx D2.ints).mono ?_
    rintro e3 w3 ⟨A3, c3, rfl, own3, hb3⟩
    have D3 := (D2.next hb3).alloc (.cells #[.int .i64 (T : Nat), .slice A3 r c3] 25)
    have E3 := (E2.next hb3).alloc (.cells #[.int .i64 (T : Nat), .slice A3 r c3] 25)
    have X3 := own3.ints.alloc (Nat.le_refl _) (.cells #[.int .i64 (T : Nat), .slice A3 r c3] 25)
    have BB4 := (BB3.trans (hb3.mono BB3.size)).alloc (by have h1 := hb3.size; have h2 := BB3.size; omega) (.cells #[.int .i64 (T : Nat), .slice A3 r c3] 25)
    have p0 := (E2.next hb3).c0
    have p1 := (E2.next hb3).c1
    have pl := (E2.next hb3).lt
    clear own3 HS
    go_wp2_with fail
    clear p0 p1 pl D2 E2 hb3 BB3
    refine (HJ.out _ _ _ _ _ _ _ ys HR.out (by omega) E3.ints (X3.more (by simp))).mono ?_
    rintro e4 w4 ⟨rfl, hb4⟩
    have D4 := D3.next hb4
    have E4 := E3.next hb4
    have BB5 := BB4.trans (hb4.mono BB4.size)
    clear D3 E3 X3 hb4 BB4
    go_wp2_with fail
    go_loopw [8] (fun i wr => ∃ k : Nat, k ≤ P ∧ i = .int .i64 k ∧ FamObj wr w.heap.size (b + 1) b (T : Nat) A1 m c1 xs ∧ FamObj wr W.heap.size (b2 + 1) b2 (T : Nat) A2 r c2 ys ∧ Below w.heap.size w wr) (fun i _ => P - (intOf i).toNat)
    case atStart => exact ⟨0, by omega, rfl, D4, E4, BB5⟩
    case round =>
      clear D4 E4 BB5
      obtain ⟨k, hk, rfl, D, E, BB⟩ := hrel
      have p0 := D.c0
      have p1 := D.c1
      have pl := D.lt
      by_cases hlt : k < P
      · have hdec : decide ((k : Int) < (P : Int)) = true := decide_eq_true (by omega)
        go_wp2_with fail
        obtain ⟨v, hv⟩ : ∃ v, fb (rest T k) = v := ⟨_, rfl⟩
        have hva := HNA.out k hlt
        have hvb := HNB.out k hlt
        rw [hv] at hva hvb
        have hw1 : IntKind.i64.wrap ((P : Int) - 1) = (P : Int) - 1 := IntWalk.i64_in _ (by omega)
        have hw2 : IntKind.i64.wrap ((P : Int) - 1 - (k : Int)) = (P : Int) - 1 - (k : Int) := IntWalk.i64_in _ (by omega)
        refine wp_region_class (fun u => (FamObj u w.heap.size (b + 1) b (T : Nat) A1 m c1 xs ∧ FamObj u W.heap.size (b2 + 1) b2 (T : Nat) A2 r c2 ys) ∧ Below w.heap.size w u) (by kernel_rfl) (by kernel_rfl) ⟨⟨D.drew, E.drew⟩, BB.drew⟩ ?_
        clear D E BB p0 p1 pl hv
        intro X hX f hf hex
        have k0 : ∀ x, (f x).cell? ⟨b, 0, none⟩ = some (.int .i64 (T : Nat)) := fun x => (hf x).1.1.c0
        have k1 : ∀ x, (f x).cell? ⟨b, 1, none⟩ = some (.slice A1 m c1) := fun x => (hf x).1.1.c1
        have k2 : ∀ x, (f x).cell? ⟨b2, 0, none⟩ = some (.int .i64 (T : Nat)) := fun x => (hf x).1.2.c0
        have k3 : ∀ x, (f x).cell? ⟨b2, 1, none⟩ = some (.slice A2 r c2) := fun x => (hf x).1.2.c1
        have HC : Hid (∀ x, Calls Try.prog 23 #[.agg #[.int .i64 (T : Nat), .slice A2 r c2], .int .i64 (k : Nat)] (f x) fun e w' => e = .returned (.bool (!v)) ∧ Below (f x).heap.size (f x) w') := fun x => HN.out _ _ _ _ _ _ _ _ hva HR.out (by omega) (hf x).1.2.ints
        have HE : Hid (∀ x, Calls Try.prog 23 #[.agg #[.int .i64 (T : Nat), .slice A1 m c1], .int .i64 ((P : Int) - 1 - (k : Nat))] (f x) fun e w' => e = .returned (.bool v) ∧ Below (f x).heap.size (f x) w') := fun x => HN.out _ _ _ _ _ _ _ _ hvb HM.out hx (hf x).1.1.ints
        have HD : Hid (∀ x w', Below (f x).heap.size (f x) w' → ((FamObj w' w.heap.size (b + 1) b (T : Nat) A1 m c1 xs ∧ FamObj w' W.heap.size (b2 + 1) b2 (T : Nat) A2 r c2 ys) ∧ Below w.heap.size w w')) := fun x w' hb => ⟨⟨(hf x).1.1.next hb, (hf x).1.2.next hb⟩, (hf x).2.trans (hb.mono (hf x).2.size)⟩
        clear hva hvb
        cases v
        · repeat (go_big_quiet_step (first | (go_at_call 23; first | (with_reducible exact class_of hex (HC.out _) (HD.out _)) | (with_reducible exact class_of hex (HE.out _) (HD.out _)))))
          refine wpQuiet_nil ?_
          rintro _ ⟨x, rfl⟩
          have F := hf x
          go_wp2_with fail
          go_roundw
          case rel => exact ⟨k + 1, by omega, by go_num, F.1.1, F.1.2, F.2⟩
          case measure => simp [intOf]; omega
        · repeat (go_big_quiet_step (first | (go_at_call 23; first | (with_reducible exact class_of hex (HC.out _) (HD.out _)) | (with_reducible exact class_of hex (HE.out _) (HD.out _)))))
          refine wpQuiet_nil ?_
          rintro _ ⟨x, rfl⟩
          have F := hf x
          go_wp2_with fail
          go_roundw
          case rel => exact ⟨k + 1, by omega, by go_num, F.1.1, F.1.2, F.2⟩
          case measure => simp [intOf]; omega
      · obtain rfl : k = P := by omega
        have q0 := E.c0
        have q1 := E.c1
        have ql := E.lt
        go_wp2_with fail
        clear q0 q1 ql p0 p1 pl
        refine (HI.out _ _ _ _ _ ys _ m xs true (HV.out _ HB2.out) HW2.out HM.out HB2.out HR.out (by omega) E.ints).mono ?_
        rintro e5 w5 ⟨A5, c5, rfl, own5, hb5⟩
        have D5 := (D.next hb5).alloc (.cells #[.int .i64 (T : Nat), .slice A5 m c5] 25)
        have E5 := (E.next hb5).alloc (.cells #[.int .i64 (T : Nat), .slice A5 m c5] 25)
        have X5 := FamObj.start (t := (T : Nat)) 25 hb5.size own5
        have BB6 := (BB.trans (hb5.mono BB.size)).alloc (by have h1 := hb5.size; have h2 := BB.size; omega) (.cells #[.int .i64 (T : Nat), .slice A5 m c5] 25)
        have q0 := (E.next hb5).c0
        have q1 := (E.next hb5).c1
        have ql := (E.next hb5).lt
        clear own5
        go_wp2_with fail
        clear q0 q1 ql D E BB hb5
        refine (HO.out _ _ _ _ _ _ _ HB2.out HR.out (by omega) E5.ints).mono ?_
        rintro e6 w6 ⟨rfl, hb6⟩
        have D6 := D5.next hb6
        have X6 := X5.next hb6
        have BB7 := BB6.trans (hb6.mono BB6.size)
        clear D5 E5 X5 hb6 BB6
        have p0 := D6.c0
        have p1 := D6.c1
        have pl := D6.lt
        have q0 := X6.c0
        have q1 := X6.c1
        have ql := X6.lt
        go_wp2_with fail
        refine (HJ.out _ _ _ _ _ _ _ xs HM.out hx X6.ints D6.ints).mono ?_
        rintro e7 w7 ⟨rfl, hb7⟩
        have BB8 := BB7.trans (hb7.mono BB7.size)
        clear p0 p1 pl q0 q1 ql D6 X6 hb7 BB7
        go_wp2_with fail
        go_returns
        exact ⟨by first | rfl | simp, BB8⟩

namespace fnBlockerOf
open Go.ChangeShapes Go.WideShapes Go.ChangeAt Go.RowKit Go.Deep Go.Joins
set_option linter.unusedVariables false
set_option maxRecDepth 100000 in
theorem lifted (os : Os) (started : os.Started) (H : Type) (enc : TypeId × Value → H) :
    ReturnsInHanded {} Try.checked os 4 .any (Rows.fnBlockerOfSpec.pre6 enc Try.prog Try.f4 Rows.fnBlockerOfRow.domain false) (Rows.fnBlockerOfSpec.post enc Try.prog Try.f4 false true false false) := by
  refine returnsInHanded_of_change (C := Try.checked) own started (by kernel_rfl) Try.func4
    (ChangeSpec.witness6 (enc := enc) (C := Try.checked) false ⟨#[], #[.slice none 0 0], []⟩ 8 (by kernel_rfl) (by kernel_rfl) (by kernel_rfl) (by kernel_rfl)) ?_
  intro W base args ds gs before hval0 hW hcnd _
  have hval : ∀ (j : Nat) t v, Try.f4.params[j]? = some t → args[j]? = some v → Value.okWide Try.prog W .any base t v := hval0
  have hW' := hW
  obtain ⟨p, q, hA0, hV, rfl, hfz, hnd⟩ := hW
  have hA : DataW.TrodAll enc Try.prog W 0 (fun _ => true) true Try.f4.params.toList args.toList ds p := hA0
  rw [Try.params4] at hA hval
  obtain ⟨v0, vs0, d0, ds0, p0, q0, hargs, rfl, rfl, h0, r0⟩ := trodAll_cons hA
  obtain ⟨rfl, rfl, rfl⟩ := trodAll_nil r0
  obtain rfl : args = #[v0] := by cases args; simp_all
  obtain ⟨rfl, rfl⟩ := trodVars_none hV
  have k0 := h0
  have lt0 : ∀ x ∈ p0, x.block < W.heap.size := by obtain ⟨m, hm⟩ := k0; exact DataW.trod_lt m _ _ _ hm
  obtain ⟨A0, c0, bs0, rfl, hb0, hl0⟩ := open_bytes (hval 0 22 v0 rfl rfl) h0
  clear hA0 hval0
  refine (blockerOf_law A0 c0 bs0 W hb0 hl0).mono fun e W' ⟨he, bel⟩ => ?_
  subst he
  exact ⟨_, rfl, _, _, _, [], _, [], hW', trodAll_mk1 (shut_bool Try.underlying4 _), (trodAll_cons_mk (Below.trod laidOut (by kernel_rfl) (of_decide_eq_true (by kernel_rfl)) k0 bel lt0) trodAll_mk0), rfl, bel.frame _, fun h => by cases h⟩

theorem holds : Rows.FnBlockerOfSaid :=
  OpenClaim.holds_of_wide 4 Try.f4 rfl rfl rfl rfl rfl rfl rfl ⟨rfl, rfl, rfl, rfl, rfl⟩ rfl rfl rfl rfl rfl (by kernel_rfl) Try.func4 (by kernel_rfl)
    (of_decide_eq_true (by kernel_rfl)) (by unfold Func.isWrapper; first | (rw [if_pos (by decide +kernel)]; kernel_rfl) | (rw [if_neg (by decide +kernel)]; exact ⟨rfl, rfl⟩))
    (fun os started H enc _ => lifted os started H enc)
end fnBlockerOf
end Go.Proofs.Ytlcgbmeneajfoab
