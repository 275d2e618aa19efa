/- The law FnFamilyFrom holds of every code: a family made of a list has each state of the list, its least states are of the list, and made from its least states it is the same. -/
import Derived.Test.YtmdmmebekicpkaaBytes
import Derived.Test.YtmdmmebekicpkaaDrawFrom
import Derived.Test.YtmdmmebekicpkaaImpl8f
import Derived.Test.YtmdmmebekicpkaaFamO
import Derived.Test.YtmdmmebekicpkaaSameFam
import Derived.Test.YtmdmmebekicpkaaHasInt
import Derived.Test.YtmdmmebekicpkaaClass
namespace Go.Proofs.Ytmdmmebekicpkaa
open Go.RowKit
set_option maxRecDepth 100000

theorem fromOk_again {T : Nat} {ls : List Nat} (hT : T ≤ 6) : fromOk (T : Nat) (natI (famOf T ls)) = true := by
  have ok := famOf_ok T (by omega) ls
  exact fromOk_iff.2 ⟨T, famOf T ls, rfl, hT, rfl, Nat.le_trans ok.len (pow_64 hT), ok.lt⟩
theorem fromL_of {T : Nat} {ls : List Nat} (h : fromOk (T : Nat) (natI ls) = true) : fromL (T : Nat) (natI ls) = natI (famOf T ls) := by
  unfold fromL; rw [if_pos h, natOf_natI]; rfl
theorem from_has {T : Nat} {ls : List Nat} (hT : T ≤ 6) (hls : ∀ x ∈ ls, x < 2 ^ T) (z : Int) (hz : z ∈ natI ls) : famInI (T : Nat) (natI (famOf T ls)) z = true := by
  obtain ⟨x, hx, rfl⟩ := List.mem_map.1 hz
  rw [inI_of hT (famOf_ok T (by omega) ls) (hls x hx)]
  exact famOf_has (by omega) hx (hls x hx)
theorem from_of {T : Nat} {ls : List Nat} (hT : T ≤ 6) (z : Int) (hz : z ∈ natI (famOf T ls)) : z ∈ natI ls := by
  obtain ⟨x, hx, rfl⟩ := List.mem_map.1 hz
  exact List.mem_map.2 ⟨x, famOf_mem (by omega) hx, rfl⟩

set_option maxHeartbeats 4000000 in
theorem familyFrom_law (A : Option Addr) (cap l : Nat) (w : World) (hb : BytesIn w w.heap.size A l) (hc : l ≤ cap) :
    Calls Try.prog 3 #[.slice A l cap] w fun e w' => e = .returned (.bool true) ∧ Below w.heap.size w w' := by
  by_cases hbig : 1048576 < l
  · go_enter Try.func3, Try.ntmps3
    go_wp2
    go_returns
    exact ⟨rfl, Below.refl _ _⟩
  have hl : l ≤ 1048576 := by omega
  clear hbig
  have HI : Hid (∀ (u : World) (t : Int) (A : Option Addr) (c m : Nat) (xs : List Int) (z : Int) (r : Nat) (ys : List Int) (v : Bool), fromT t xs = z → fromL t xs = ys → ys.length = r → fromOk t xs = v → xs.length = m → m ≤ 65 → IntsIn u u.heap.size A xs → Calls Try.prog 16 #[.int .i64 t, .slice A m c] u (GotM u z r ys v)) := fun u t A c m xs z r ys v hz hy hr hv hm hl hi => by
    subst hz hy hv hm
    exact (from_any t A c xs u hi (by omega)).mono fun _ _ k => k.m hr
  have HS : Hid (∀ (u : World) (t : Int) (A : Option Addr) (c m : Nat) (xs : List Int) (z : Int) (r : Nat) (ys : List Int) (v : Bool), fromT t xs = z → fromL t xs = ys → ys.length = r → fromOk t xs = v → xs.length = m → m ≤ 65 → IntsIn u u.heap.size A xs → Calls Try.prog 17 #[.int .i64 t, .slice A m c] u (GotM u z r ys v)) := fun u t A c m xs z r ys v hz hy hr hv hm hl hi => by
    subst hz hy hv hm
    exact (specFrom_any t A c xs u hi (by unfold maxLen; omega)).mono fun _ _ k => k.m hr
  have HO : Hid (∀ (u : World) (t : Int) (A : Option Addr) (c m : Nat) (xs : List Int) (v : Bool), famOkB t xs = v → xs.length = m → m ≤ 65 → IntsIn u u.heap.size A xs → Calls Try.prog 22 #[.agg #[.int .i64 t, .slice A m c]] u fun e w' => e = .returned (.bool v) ∧ Below u.heap.size u w') := fun u t A c m xs v hv hm hl hi => by
    subst hv hm; exact familyOk_any t A c xs u hi (by omega)
  have HN : Hid (∀ (u : World) (t : Int) (A : Option Addr) (c m : Nat) (xs : List Int) (s : Int) (v : Bool), famInI t xs s = v → xs.length = m → m ≤ 65 → IntsIn u u.heap.size A xs → Calls Try.prog 20 #[.agg #[.int .i64 t, .slice A m c], .int .i64 s] u fun e w' => e = .returned (.bool v) ∧ Below u.heap.size u w') := fun u t A c m xs s v hv hm hl hi => by
    subst hv hm; exact inOk_any t A c xs s u hi (by omega)
  have HJ : Hid (∀ (u : World) (t : Int) (A B : Option Addr) (c d m : Nat) (xs : List Int), xs.length = m → m ≤ 65 → IntsIn u u.heap.size A xs → IntsIn u u.heap.size B xs → Calls Try.prog 18 #[.agg #[.int .i64 t, .slice A m c], .agg #[.int .i64 t, .slice B m d]] u fun e w' => e = .returned (.bool true) ∧ Below u.heap.size u w') := fun u t A B c d m xs hm hl h1 h2 => sameFamily_self t A B c d m xs u h1 h2 hm (by omega)
  have HH : Hid (∀ (u : World) (A : Option Addr) (c m : Nat) (xs : List Int) (n : Int), n ∈ xs → xs.length = m → m ≤ 65 → IntsIn u u.heap.size A xs → Calls Try.prog 21 #[.slice A m c, .int .i64 n] u fun e w' => e = .returned (.bool true) ∧ Below u.heap.size u w') := fun u A c m xs n hn hm hl hi => hasInt_in A c m xs n u hi hm (by omega) hn
  go_enter Try.func3, Try.ntmps3
  go_wp2_with fail
  refine (drawFamilyFrom_any _ _ _ _ hb hl hc).mono ?_
  rintro e1 w1 ⟨t, A1, c1, xs, rfl, own, t0, t1, hx, BB1⟩
  obtain ⟨m, hm⟩ : ∃ m, xs.length = m := ⟨_, rfl⟩
  rw [hm] at own hx ⊢
  have HM := Lib.hid hm
  clear hb hl hc
  go_wp2_with fail
  cases hB : fromOk t xs with
  | false =>
    have HB := Lib.hid hB
    have HV : Hid (fromT t xs = 0) := by unfold Hid fromT; rw [hB]; rfl
    have HW : Hid (fromL t xs = []) := by unfold Hid fromL; rw [hB]; rfl
    clear hB hm
    refine (HI.out _ _ _ _ _ _ 0 0 [] false HV.out HW.out rfl HB.out HM.out hx own.ints).mono ?_
    rintro e2 w2 ⟨A2, c2, rfl, own2, hb2⟩
    have R2 := (own.below hb2 own.lt).below ((Below.refl _ _).alloc (Nat.le_refl _) (.cells #[.int .i64 0, .slice A2 0 c2] 27)) (own.below hb2 own.lt).lt
    have E2 := FamObj.start (t := 0) 27 hb2.size own2
    have BB2 := (BB1.trans (hb2.mono BB1.size)).alloc (by have h1 := hb2.size; have h2 := BB1.size; omega) (.cells #[.int .i64 0, .slice A2 0 c2] 27)
    obtain ⟨W2, hW2⟩ : ∃ W2, W2 = w2.alloc (.cells #[.int .i64 0, .slice A2 0 c2] 27) := ⟨_, rfl⟩
    have hs2 := hb2.size
    clear own2 own
    go_wp2_with fail
    rw [← hW2] at R2 BB2 E2 ⊢
    clear hW2 hb2
    generalize w2.heap.size = b2 at *
    refine (HS.out _ _ _ _ _ _ 0 0 [] false HV.out HW.out rfl HB.out HM.out hx R2.ints).mono ?_
    rintro e3 w3 ⟨A3, c3, rfl, own3, hb3⟩
    have E3 := (E2.next hb3).alloc (.cells #[.int .i64 0, .slice A3 0 c3] 27)
    have BB3 := (BB2.trans (hb3.mono BB2.size)).alloc (by have h1 := hb3.size; have h2 := BB2.size; omega) (.cells #[.int .i64 0, .slice A3 0 c3] 27)
    have p0 := (E2.next hb3).c0
    have p1 := (E2.next hb3).c1
    have pl := (E2.next hb3).lt
    clear own3 HS HI HN
    go_wp2_with fail
    clear p0 p1 pl E2 hb3 BB2
    have p0 := E3.c0
    have p1 := E3.c1
    have pl := E3.lt
    refine (HJ.out _ 0 _ _ _ _ 0 [] rfl (by omega) IntsIn.nil IntsIn.nil).mono ?_
    rintro e4 w4 ⟨rfl, hb4⟩
    have E4 := E3.next hb4
    have BB4 := BB3.trans (hb4.mono BB3.size)
    clear p0 p1 pl E3 hb4 BB3
    have p0 := E4.c0
    have p1 := E4.c1
    have pl := E4.lt
    go_wp2_with fail
    refine (HJ.out _ 0 _ _ _ _ 0 [] rfl (by omega) IntsIn.nil IntsIn.nil).mono ?_
    rintro e5 w5 ⟨rfl, hb5⟩
    have BB5 := BB4.trans (hb5.mono BB4.size)
    clear p0 p1 pl E4 hb5 BB4
    go_wp2_with fail
    refine (alive_any _).mono ?_
    rintro e7 w7 ⟨rfl, hb7⟩
    go_wp2_with fail
    go_returns
    exact ⟨by first | rfl | simp, BB5.trans (hb7.mono BB5.size)⟩
  | true =>
    obtain ⟨T, ls, rfl, hT, rfl, hlen, hls⟩ := fromOk_iff.1 hB
    have HB := Lib.hid hB
    have hok := famOf_ok T (by omega) ls
    have hB2 := fromOk_again (ls := ls) hT
    have HB2 := Lib.hid hB2
    have HOK := Lib.hid (famOk_of hT hok)
    have HV : Hid (∀ zs, fromOk (T : Nat) zs = true → fromT (T : Nat) zs = (T : Nat)) := fun zs hz => by unfold fromT; rw [hz]; rfl
    have HW := Lib.hid (fromL_of hB)
    have HW2 := Lib.hid ((fromL_of hB2).trans (by rw [famOf_again (by omega)]))
    obtain ⟨r, hr⟩ : ∃ r, (natI (famOf T ls)).length = r := ⟨_, rfl⟩
    have hr64 : r ≤ 64 := by
      have h1 := hok.len
      have h2 := pow_64 hT
      rw [← hr, natI_length]; omega
    have HR := Lib.hid hr
    have HHAS := Lib.hid (from_has (ls := ls) hT hls)
    have HOF := Lib.hid (from_of (T := T) (ls := ls) hT)
    clear hB hm hok hr hls hlen hB2
    generalize natI (famOf T ls) = ys at *
    generalize natI ls = xs at *
    refine (HI.out _ _ _ _ _ _ _ r ys true (HV.out _ HB.out) HW.out HR.out HB.out HM.out hx own.ints).mono ?_
    rintro e2 w2 ⟨A2, c2, rfl, own2, hb2⟩
    have R2 := (own.below hb2 own.lt).below ((Below.refl _ _).alloc (Nat.le_refl _) (.cells #[.int .i64 (T : Nat), .slice A2 r c2] 27)) (own.below hb2 own.lt).lt
    have E2 := FamObj.start (t := (T : Nat)) 27 hb2.size own2
    have BB2 := (BB1.trans (hb2.mono BB1.size)).alloc (by have h1 := hb2.size; have h2 := BB1.size; omega) (.cells #[.int .i64 (T : Nat), .slice A2 r c2] 27)
    obtain ⟨W2, hW2⟩ : ∃ W2, W2 = w2.alloc (.cells #[.int .i64 (T : Nat), .slice A2 r c2] 27) := ⟨_, rfl⟩
    have hs2 := hb2.size
    clear own2 own
    go_wp2_with fail
    rw [← hW2] at R2 BB2 E2 ⊢
    clear hW2 hb2
    generalize w2.heap.size = b2 at *
    refine (HS.out _ _ _ _ _ _ _ r ys true (HV.out _ HB.out) HW.out HR.out HB.out HM.out hx R2.ints).mono ?_
    rintro e3 w3 ⟨A3, c3, rfl, own3, hb3⟩
    have R3 := (R2.below hb3 R2.lt).below ((Below.refl _ _).alloc (Nat.le_refl _) (.cells #[.int .i64 (T : Nat), .slice A3 r c3] 27)) (R2.below hb3 R2.lt).lt
    have E3 := (E2.next hb3).alloc (.cells #[.int .i64 (T : Nat), .slice A3 r c3] 27)
    have X3 := own3.ints.alloc (Nat.le_refl _) (.cells #[.int .i64 (T : Nat), .slice A3 r c3] 27)
    have BB3 := (BB2.trans (hb3.mono BB2.size)).alloc (by have h1 := hb3.size; have h2 := BB2.size; omega) (.cells #[.int .i64 (T : Nat), .slice A3 r c3] 27)
    have p0 := (E2.next hb3).c0
    have p1 := (E2.next hb3).c1
    have pl := (E2.next hb3).lt
    clear own3 HS
    go_wp2_with fail
    clear p0 p1 pl E2 hb3 BB2 R2
    refine (HJ.out _ _ _ _ _ _ _ ys HR.out (by omega) E3.ints (X3.more (by simp))).mono ?_
    rintro e4 w4 ⟨rfl, hb4⟩
    have R4 := R3.below hb4 R3.lt
    have E4 := E3.next hb4
    have BB4 := BB3.trans (hb4.mono BB3.size)
    clear E3 X3 hb4 BB3 R3
    go_wp2_with fail
    go_loopw [9] (fun i wr => ∃ k : Nat, k ≤ m ∧ i = .int .i64 k ∧ OwnI wr w.heap.size (.slice A1 m c1) xs ∧ FamObj wr w1.heap.size (b2 + 1) b2 (T : Nat) A2 r c2 ys ∧ Below w.heap.size w wr) (fun i _ => m - (intOf i).toNat)
    case atStart => exact ⟨0, by omega, rfl, R4, E4, BB4⟩
    case round =>
      clear R4 E4 BB4
      obtain ⟨k, hk, rfl, R, E, BB⟩ := hrel
      by_cases hlt : k < m
      · have hdec : decide ((k : Int) < (m : Int)) = true := decide_eq_true (by omega)
        obtain ⟨z, hz⟩ : ∃ z, xs[k]? = some z := ⟨_, List.getElem?_eq_getElem (by have := HM.out; omega)⟩
        have hhas := HHAS.out z (List.mem_of_getElem? hz)
        obtain ⟨bb, off, rfl, hbb, g1⟩ := R.ints k _ hz
        have p0 := E.c0
        have p1 := E.c1
        have pl := E.lt
        go_wp2_with fail
        refine wp_region_class (fun u => (OwnI u w.heap.size (.slice (some ⟨bb, off, none⟩) m c1) xs ∧ FamObj u w1.heap.size (b2 + 1) b2 (T : Nat) A2 r c2 ys) ∧ Below w.heap.size w u) (by kernel_rfl) (by kernel_rfl) ⟨⟨R.below ((Below.refl _ _).drew) R.lt, E.drew⟩, BB.drew⟩ ?_
        clear R E BB p0 p1 pl g1 hbb
        intro X hX f hf hex
        have k0 : ∀ x, (f x).cell? ⟨b2, 0, none⟩ = some (.int .i64 (T : Nat)) := fun x => (hf x).1.2.c0
        have k1 : ∀ x, (f x).cell? ⟨b2, 1, none⟩ = some (.slice A2 r c2) := fun x => (hf x).1.2.c1
        have k2 : ∀ x, (f x).cell? ⟨bb, off + k, none⟩ = some (.int .i64 z) := fun x => by
          obtain ⟨b', off', e, _, g⟩ := (hf x).1.1.ints k _ hz
          injection e with e
          injection e with e1 e2
          subst e1 e2
          exact g
        have HC : Hid (∀ x, Calls Try.prog 20 #[.agg #[.int .i64 (T : Nat), .slice A2 r c2], .int .i64 z] (f x) fun e w' => e = .returned (.bool true) ∧ Below (f x).heap.size (f x) w') := fun x => HN.out _ _ _ _ _ _ _ _ hhas HR.out (by omega) (hf x).1.2.ints
        have HD : Hid (∀ x w', Below (f x).heap.size (f x) w' → ((OwnI w' w.heap.size (.slice (some ⟨bb, off, none⟩) m c1) xs ∧ FamObj w' w1.heap.size (b2 + 1) b2 (T : Nat) A2 r c2 ys) ∧ Below w.heap.size w w')) := fun x w' hb => ⟨⟨(hf x).1.1.below hb (hf x).1.1.lt, (hf x).1.2.next hb⟩, (hf x).2.trans (hb.mono (hf x).2.size)⟩
        clear hhas
        repeat (go_big_quiet_step (first | (go_at_call 20; with_reducible exact class_of hex (HC.out _) (HD.out _))))
        refine wpQuiet_nil ?_
        rintro _ ⟨x, rfl⟩
        obtain ⟨⟨R, E⟩, BB⟩ := hf x
        generalize f x = wx at *
        clear HC HD k0 k1 k2 hf hex
        go_wp2_with fail
        go_roundw
        case rel => exact ⟨k + 1, by omega, by go_num, R, E, BB⟩
        case measure => simp [intOf]; omega
      · obtain rfl : k = m := by omega
        have p0 := E.c0
        have p1 := E.c1
        have pl := E.lt
        go_wp2_with fail
        clear p0 p1 pl
        go_loopw [10] (fun i wr => ∃ j : Nat, j ≤ r ∧ i = .int .i64 j ∧ OwnI wr w.heap.size (.slice A1 k c1) xs ∧ FamObj wr w1.heap.size (b2 + 1) b2 (T : Nat) A2 r c2 ys ∧ Below w.heap.size w wr) (fun i _ => r - (intOf i).toNat)
        case atStart => exact ⟨0, by omega, rfl, R, E, BB⟩
        case round =>
          clear R E BB
          obtain ⟨j, hj, rfl, R, E, BB⟩ := hrel
          have p0 := E.c0
          have p1 := E.c1
          have pl := E.lt
          by_cases hjr : j < r
          · obtain ⟨z, hz⟩ : ∃ z, ys[j]? = some z := ⟨_, List.getElem?_eq_getElem (by have := HR.out; omega)⟩
            have hof := HOF.out z (List.mem_of_getElem? hz)
            obtain ⟨bb, off, rfl, hbb, g1⟩ := E.ints j _ hz
            clear hz
            go_wp2_with fail
            refine (HH.out _ _ _ _ _ _ hof HM.out hx R.ints).mono ?_
            rintro e5 w5 ⟨rfl, hb5⟩
            clear p0 p1 pl g1 hbb
            go_wp2_with fail
            go_roundw
            case rel => exact ⟨j + 1, by omega, by go_num, R.below hb5 R.lt, E.next hb5, BB.trans (hb5.mono BB.size)⟩
            case measure => simp [intOf]; omega
          · obtain rfl : j = r := by omega
            go_wp2_with fail
            clear p0 p1 pl
            refine (HI.out _ _ _ _ _ _ _ j ys true (HV.out _ HB2.out) HW2.out HR.out HB2.out HR.out (by omega) E.ints).mono ?_
            rintro e5 w5 ⟨A5, c5, rfl, own5, hb5⟩
            have E5 := (E.next hb5).alloc (.cells #[.int .i64 (T : Nat), .slice A5 j c5] 27)
            have X5 := FamObj.start (t := (T : Nat)) 27 hb5.size own5
            have BB5 := (BB.trans (hb5.mono BB.size)).alloc (by have h1 := hb5.size; have h2 := BB.size; omega) (.cells #[.int .i64 (T : Nat), .slice A5 j c5] 27)
            have q0 := (E.next hb5).c0
            have q1 := (E.next hb5).c1
            have ql := (E.next hb5).lt
            clear own5
            go_wp2_with fail
            clear q0 q1 ql E BB hb5
            refine (HO.out _ _ _ _ _ _ _ HOK.out HR.out (by omega) E5.ints).mono ?_
            rintro e6 w6 ⟨rfl, hb6⟩
            have E6 := E5.next hb6
            have X6 := X5.next hb6
            have BB6 := BB5.trans (hb6.mono BB5.size)
            clear E5 X5 hb6 BB5
            have p0 := E6.c0
            have p1 := E6.c1
            have pl := E6.lt
            have q0 := X6.c0
            have q1 := X6.c1
            have ql := X6.lt
            go_wp2_with fail
            refine (HJ.out _ _ _ _ _ _ _ ys HR.out (by omega) X6.ints E6.ints).mono ?_
            rintro e7 w7 ⟨rfl, hb7⟩
            have BB7 := BB6.trans (hb7.mono BB6.size)
            clear p0 p1 pl q0 q1 ql E6 X6 hb7 BB6
            go_wp2_with fail
            go_returns
            exact ⟨by first | rfl | simp, BB7⟩

namespace fnFamilyFrom
open Go.ChangeShapes Go.WideShapes Go.ChangeAt Go.RowKit Go.Deep Go.Joins
set_option linter.unusedVariables false
set_option maxRecDepth 100000 in
theorem lifted (os : Os) (started : os.Started) (H : Type) (enc : TypeId × Value → H) :
    ReturnsInHanded {} Try.checked os 3 .any (Rows.fnFamilyFromSpec.pre6 enc Try.prog Try.f3 Rows.fnFamilyFromRow.domain false) (Rows.fnFamilyFromSpec.post enc Try.prog Try.f3 false true false false) := by
  refine returnsInHanded_of_change (C := Try.checked) own started (by kernel_rfl) Try.func3
    (ChangeSpec.witness6 (enc := enc) (C := Try.checked) false ⟨#[], #[.slice none 0 0], []⟩ 8 (by kernel_rfl) (by kernel_rfl) (by kernel_rfl) (by kernel_rfl)) ?_
  intro W base args ds gs before hval0 hW hcnd _
  have hval : ∀ (j : Nat) t v, Try.f3.params[j]? = some t → args[j]? = some v → Value.okWide Try.prog W .any base t v := hval0
  have hW' := hW
  obtain ⟨p, q, hA0, hV, rfl, hfz, hnd⟩ := hW
  have hA : DataW.TrodAll enc Try.prog W 0 (fun _ => true) true Try.f3.params.toList args.toList ds p := hA0
  rw [Try.params3] at hA hval
  obtain ⟨v0, vs0, d0, ds0, p0, q0, hargs, rfl, rfl, h0, r0⟩ := trodAll_cons hA
  obtain ⟨rfl, rfl, rfl⟩ := trodAll_nil r0
  obtain rfl : args = #[v0] := by cases args; simp_all
  obtain ⟨rfl, rfl⟩ := trodVars_none hV
  have k0 := h0
  have lt0 : ∀ x ∈ p0, x.block < W.heap.size := by obtain ⟨m, hm⟩ := k0; exact DataW.trod_lt m _ _ _ hm
  obtain ⟨A0, c0, bs0, rfl, hb0, hl0⟩ := open_bytes (hval 0 22 v0 rfl rfl) h0
  clear hA0 hval0
  refine (familyFrom_law A0 c0 bs0 W hb0 hl0).mono fun e W' ⟨he, bel⟩ => ?_
  subst he
  exact ⟨_, rfl, _, _, _, [], _, [], hW', trodAll_mk1 (shut_bool Try.underlying4 _), (trodAll_cons_mk (Below.trod laidOut (by kernel_rfl) (of_decide_eq_true (by kernel_rfl)) k0 bel lt0) trodAll_mk0), rfl, bel.frame _, fun h => by cases h⟩

theorem holds : Rows.FnFamilyFromSaid :=
  OpenClaim.holds_of_wide 3 Try.f3 rfl rfl rfl rfl rfl rfl rfl ⟨rfl, rfl, rfl, rfl, rfl⟩ rfl rfl rfl rfl rfl (by kernel_rfl) Try.func3 (by kernel_rfl)
    (of_decide_eq_true (by kernel_rfl)) (by unfold Func.isWrapper; first | (rw [if_pos (by decide +kernel)]; kernel_rfl) | (rw [if_neg (by decide +kernel)]; exact ⟨rfl, rfl⟩))
    (fun os started H enc _ => lifted os started H enc)
end fnFamilyFrom
end Go.Proofs.Ytmdmmebekicpkaa
