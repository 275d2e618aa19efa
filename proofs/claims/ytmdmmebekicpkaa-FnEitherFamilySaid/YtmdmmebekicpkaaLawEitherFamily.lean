/- The law FnEitherFamily holds of every code: what blocks either is what blocks both. -/
import Derived.Test.YtmdmmebekicpkaaBytes
import Derived.Test.YtmdmmebekicpkaaDrawFams
import Derived.Test.YtmdmmebekicpkaaImpl8h
import Derived.Test.YtmdmmebekicpkaaImpl8f
import Derived.Test.YtmdmmebekicpkaaFamR
import Derived.Test.YtmdmmebekicpkaaClass
namespace Go.Proofs.Ytmdmmebekicpkaa
open Go.RowKit
set_option maxRecDepth 100000

theorem sum_eq {a b c d S : Nat} (h1 : a + b = S) (h2 : c + d = S) (h : S ≤ 200) : IntKind.i64.wrap ((a : Int) + (b : Int)) = (S : Int) ∧ IntKind.i64.wrap ((c : Int) + (d : Int)) = (S : Int) := by
  refine ⟨?_, ?_⟩ <;> rw [IntWalk.i64_in _ (by omega)] <;> omega

set_option maxHeartbeats 8000000 in
theorem eitherFamily_law (A : Option Addr) (cap l : Nat) (w : World) (hb : BytesIn w w.heap.size A l) (hc : l ≤ cap) :
    Calls Try.prog 5 #[.slice A l cap] w fun e w' => e = .returned (.bool true) ∧ Below w.heap.size w w' := by
  by_cases hbig : 1048576 < l
  · go_enter Try.func5, Try.ntmps5
    go_wp2
    go_returns
    exact ⟨rfl, Below.refl _ _⟩
  have hl : l ≤ 1048576 := by omega
  clear hbig
  have HI : Hid (∀ (u : World) (t : Int) (A : Option Addr) (c m : Nat) (xs : List Int) (s : Int) (B : Option Addr) (d k : Nat) (ys : List Int) (z : Int) (r : Nat) (zs : List Int) (v : Bool), twoT t xs s ys = z → orL t xs s ys = zs → zs.length = r → twoOk t xs s ys = v → xs.length = m → ys.length = k → m ≤ 65 → k ≤ 65 → NilOk A m c → NilOk B k d → IntsIn u u.heap.size A xs → IntsIn u u.heap.size B ys → Calls Try.prog 28 #[.agg #[.int .i64 t, .slice A m c], .agg #[.int .i64 s, .slice B k d]] u (GotM u z r zs v)) := fun u t A c m xs s B d k ys z r zs v hz hy hr hv hm hk hl hl2 kA kB hi hj => by
    subst hz hy hv hm hk
    exact (either_any t A c xs s B d ys u hi hj (by omega) (by omega) kA kB).mono fun _ _ k => k.m hr
  have HS : Hid (∀ (u : World) (t : Int) (A : Option Addr) (c m : Nat) (xs : List Int) (s : Int) (B : Option Addr) (d k : Nat) (ys : List Int) (z : Int) (r : Nat) (zs : List Int) (v : Bool), twoT t xs s ys = z → orL t xs s ys = zs → zs.length = r → twoOk t xs s ys = v → xs.length = m → ys.length = k → m ≤ 65 → k ≤ 65 → NilOk A m c → NilOk B k d → IntsIn u u.heap.size A xs → IntsIn u u.heap.size B ys → Calls Try.prog 29 #[.agg #[.int .i64 t, .slice A m c], .agg #[.int .i64 s, .slice B k d]] u (GotM u z r zs v)) := fun u t A c m xs s B d k ys z r zs v hz hy hr hv hm hk hl hl2 kA kB hi hj => by
    subst hz hy hv hm hk
    exact (specEither_any t A c xs s B d ys u hi hj (by unfold maxLen; omega) (by unfold maxLen; omega)).mono fun _ _ k => k.m hr
  have HO : Hid (∀ (u : World) (t : Int) (A : Option Addr) (c m : Nat) (xs : List Int) (s : Int) (B : Option Addr) (d k : Nat) (ys : List Int) (z : Int) (r : Nat) (zs : List Int) (v : Bool), twoT t xs s ys = z → andL t xs s ys = zs → zs.length = r → twoOk t xs s ys = v → xs.length = m → ys.length = k → m ≤ 65 → k ≤ 65 → IntsIn u u.heap.size A xs → IntsIn u u.heap.size B ys → Calls Try.prog 24 #[.agg #[.int .i64 t, .slice A m c], .agg #[.int .i64 s, .slice B k d]] u (GotM u z r zs v)) := fun u t A c m xs s B d k ys z r zs v hz hy hr hv hm hk hl hl2 hi hj => by
    subst hz hy hv hm hk
    exact (both_any t A c xs s B d ys u hi hj (by omega) (by omega)).mono fun _ _ k => k.m hr
  have HL : Hid (∀ (u : World) (t : Int) (A : Option Addr) (c m : Nat) (xs : List Int) (z : Int) (r : Nat) (ys : List Int) (v : Bool), blT t xs = z → blL t xs = ys → ys.length = r → famOkB t xs = v → xs.length = m → m ≤ 65 → IntsIn u u.heap.size A xs → Calls Try.prog 30 #[.agg #[.int .i64 t, .slice A m c]] u (GotM u z r ys v)) := fun u t A c m xs z r ys v hz hy hr hv hm hl hi => by
    subst hz hy hv hm
    exact (blocker_any t A c xs u hi (by omega)).mono fun _ _ k => k.m hr
  have HC : Hid (∀ (u : World) (t : Int) (A : Option Addr) (c m : Nat) (xs : List Int) (v : Int), famCountI t xs = v → xs.length = m → m ≤ 65 → IntsIn u u.heap.size A xs → Calls Try.prog 26 #[.agg #[.int .i64 t, .slice A m c]] u fun e w' => e = .returned (.int .i64 v) ∧ Below u.heap.size u w') := fun u t A c m xs v hv hm hl hi => by
    subst hv hm; exact countIn_any t A c xs u hi (by omega)
  have HJ : Hid (∀ (u : World) (t : Int) (A B : Option Addr) (c d m : Nat) (xs : List Int), xs.length = m → m ≤ 65 → IntsIn u u.heap.size A xs → IntsIn u u.heap.size B xs → Calls Try.prog 18 #[.agg #[.int .i64 t, .slice A m c], .agg #[.int .i64 t, .slice B m d]] u fun e w' => e = .returned (.bool true) ∧ Below u.heap.size u w') := fun u t A B c d m xs hm hl h1 h2 => sameFamily_self t A B c d m xs u h1 h2 hm (by omega)
  go_enter Try.func5, Try.ntmps5
  go_wp2_with fail
  refine (drawEitherFamily_any _ _ _ _ hb hl hc).mono ?_
  rintro e1 w1 ⟨t, A1, c1, xs, s, A2, c2, ys, rfl, own1, own2, ht, hx, hs, hy, BB1⟩
  obtain ⟨m, hm⟩ : ∃ m, xs.length = m := ⟨_, rfl⟩
  obtain ⟨k, hk⟩ : ∃ k, ys.length = k := ⟨_, rfl⟩
  rw [hm] at own1 hx ⊢
  rw [hk] at own2 hy ⊢
  have HM := Lib.hid hm
  have HK := Lib.hid hk
  clear hb hl hc
  go_wp2_with fail
  have X1 := FamRd.start (t := t) (m := m) (c := c1) 27 own1.ints
  have X2 := X1.alloc (.cells #[.int .i64 s, .slice A2 k c2] 27)
  have Y2 := FamRd.start (t := s) (m := k) (c := c2) 27 (own2.ints.alloc (Nat.le_refl _) (.cells #[.int .i64 t, .slice A1 m c1] 27) |>.more (by simp))
  have kA := own_nil own1
  have kB := own_nil own2
  have BB2 := (BB1.alloc BB1.size (.cells #[.int .i64 t, .slice A1 m c1] 27)).alloc (by have := BB1.size; simp; omega) (.cells #[.int .i64 s, .slice A2 k c2] 27)
  rw [World.size_alloc] at Y2
  obtain ⟨W, hW⟩ : ∃ W, W = (w1.alloc (.cells #[.int .i64 t, .slice A1 m c1] 27)).alloc (.cells #[.int .i64 s, .slice A2 k c2] 27) := ⟨_, rfl⟩
  rw [← hW] at X2 Y2 BB2 ⊢
  clear X1 own1 own2 BB1 hW
  generalize w1.heap.size = b at *
  cases hB : twoOk t xs s ys with
  | false =>
    have HB := Lib.hid hB
    have HV : Hid (twoT t xs s ys = 0) := by unfold Hid twoT; rw [hB]; rfl
    have HW : Hid (orL t xs s ys = []) := by unfold Hid orL; rw [hB]; rfl
    clear hB hm hk
    refine (HI.out _ _ _ _ _ _ _ _ _ _ _ 0 0 [] false HV.out HW.out rfl HB.out HM.out HK.out hx hy kA kB X2.ints Y2.ints).mono ?_
    rintro e2 w2 ⟨A3, c3, rfl, own3, hb2⟩
    have X3 := (X2.next hb2).alloc (.cells #[.int .i64 0, .slice A3 0 c3] 27)
    have Y3 := (Y2.next hb2).alloc (.cells #[.int .i64 0, .slice A3 0 c3] 27)
    have Z3 := FamRd.start (t := 0) (m := 0) (c := c3) 27 own3.ints
    have BB3 := (BB2.trans (hb2.mono BB2.size)).alloc (by have h1 := hb2.size; have h2 := BB2.size; omega) (.cells #[.int .i64 0, .slice A3 0 c3] 27)
    have p0 := (X2.next hb2).c0
    have p1 := (X2.next hb2).c1
    have pl := (X2.next hb2).lt
    have q0 := (Y2.next hb2).c0
    have q1 := (Y2.next hb2).c1
    have ql := (Y2.next hb2).lt
    obtain ⟨W2, hW2⟩ : ∃ W2, W2 = w2.alloc (.cells #[.int .i64 0, .slice A3 0 c3] 27) := ⟨_, rfl⟩
    clear own3
    go_wp2_with fail
    rw [← hW2] at X3 Y3 Z3 BB3 ⊢
    clear hW2 X2 Y2 BB2 hb2 p0 p1 pl q0 q1 ql
    generalize w2.heap.size = b2 at *
    refine (HS.out _ _ _ _ _ _ _ _ _ _ _ 0 0 [] false HV.out HW.out rfl HB.out HM.out HK.out hx hy kA kB X3.ints Y3.ints).mono ?_
    rintro e3 w3 ⟨A4, c4, rfl, own4, hb3⟩
    have Z4 := (Z3.next hb3).alloc (.cells #[.int .i64 0, .slice A4 0 c4] 27)
    have BB4 := (BB3.trans (hb3.mono BB3.size)).alloc (by have h1 := hb3.size; have h2 := BB3.size; omega) (.cells #[.int .i64 0, .slice A4 0 c4] 27)
    have p0 := (Z3.next hb3).c0
    have p1 := (Z3.next hb3).c1
    have pl := (Z3.next hb3).lt
    clear own4 HS HI
    go_wp2_with fail
    clear p0 p1 pl Z3 hb3 BB3
    have p0 := Z4.c0
    have p1 := Z4.c1
    have pl := Z4.lt
    refine (HJ.out _ 0 _ _ _ _ 0 [] rfl (by omega) IntsIn.nil IntsIn.nil).mono ?_
    rintro e4 w4 ⟨rfl, hb4⟩
    have Z5 := Z4.next hb4
    have BB5 := BB4.trans (hb4.mono BB4.size)
    clear p0 p1 pl Z4 hb4 BB4
    have p0 := Z5.c0
    have p1 := Z5.c1
    have pl := Z5.lt
    go_wp2_with fail
    refine (HJ.out _ 0 _ _ _ _ 0 [] rfl (by omega) IntsIn.nil IntsIn.nil).mono ?_
    rintro e5 w5 ⟨rfl, hb5⟩
    have BB6 := BB5.trans (hb5.mono BB5.size)
    clear p0 p1 pl Z5 hb5 BB5
    go_wp2_with fail
    refine (alive_any _).mono ?_
    rintro e7 w7 ⟨rfl, hb7⟩
    go_wp2_with fail
    go_returns
    exact ⟨by first | rfl | simp, BB6.trans (hb7.mono BB6.size)⟩
  | true =>
    obtain ⟨T, ns, ms, rfl, rfl, hT, rfl, rfl, hn, hms⟩ := twoOk_iff.1 hB
    have HB := Lib.hid hB
    have HV : Hid (∀ xs ys, twoOk (T : Nat) xs (T : Nat) ys = true → twoT (T : Nat) xs (T : Nat) ys = (T : Nat)) := fun xs ys h => by unfold twoT; rw [h]; rfl
    have HW := Lib.hid (orL_of hT hn hms)
    have HWB := Lib.hid (andL_of hT hn hms)
    have hokE := famOr_ok T (by omega) ns ms
    have hokB := famAnd_ok T (by omega) ns ms
    have hbA := famBl_ok T (by omega) ns
    have hbB := famBl_ok T (by omega) ms
    have hokR := famAnd_ok T (by omega) (famBl T ns) (famBl T ms)
    have HFA := Lib.hid (famOk_of hT hn)
    have HFB := Lib.hid (famOk_of hT hms)
    have HFE := Lib.hid (famOk_of hT hokE)
    have HVB : Hid (∀ zs, famOkB (T : Nat) zs = true → blT (T : Nat) zs = (T : Nat)) := fun zs hz => by unfold blT; rw [hz]; rfl
    have HLA := Lib.hid (blL_of hT hn)
    have HLB := Lib.hid (blL_of hT hms)
    have HLE := Lib.hid ((blL_of hT hokE).trans (by rw [famOr_block (by omega)]))
    have HPQ := Lib.hid (two_of hT hbA hbB)
    have HWP := Lib.hid (andL_of hT hbA hbB)
    obtain ⟨r, hr⟩ : ∃ r, (natI (famOr T ns ms)).length = r := ⟨_, rfl⟩
    have hr64 : r ≤ 64 := by
      have h1 := hokE.len
      have h2 := pow_64 hT
      rw [← hr, natI_length]; omega
    have HR := Lib.hid hr
    obtain ⟨rb, hrb⟩ : ∃ r, (natI (famAnd T ns ms)).length = r := ⟨_, rfl⟩
    have hrb64 : rb ≤ 64 := by
      have h1 := hokB.len
      have h2 := pow_64 hT
      rw [← hrb, natI_length]; omega
    have HRB := Lib.hid hrb
    obtain ⟨rp, hrp⟩ : ∃ r, (natI (famBl T ns)).length = r := ⟨_, rfl⟩
    have hrp64 : rp ≤ 64 := by
      have h1 := hbA.len
      have h2 := pow_64 hT
      rw [← hrp, natI_length]; omega
    have HRP := Lib.hid hrp
    obtain ⟨rq, hrq⟩ : ∃ r, (natI (famBl T ms)).length = r := ⟨_, rfl⟩
    have hrq64 : rq ≤ 64 := by
      have h1 := hbB.len
      have h2 := pow_64 hT
      rw [← hrq, natI_length]; omega
    have HRQ := Lib.hid hrq
    obtain ⟨rr, hrr⟩ : ∃ r, (natI (famAnd T (famBl T ns) (famBl T ms))).length = r := ⟨_, rfl⟩
    have hrr64 : rr ≤ 64 := by
      have h1 := hokR.len
      have h2 := pow_64 hT
      rw [← hrr, natI_length]; omega
    have HRR := Lib.hid hrr
    have HCA := Lib.hid (countI_of hT hn)
    have HCB := Lib.hid (countI_of hT hms)
    have HCE := Lib.hid (countI_of hT hokE)
    have HCO := Lib.hid (countI_of hT hokB)
    have hsum := famOr_sum (T := T) (by omega) ns ms
    have n1 := famN_le T ns
    have n2 := famN_le T ms
    have h64 := pow_64 hT
    have n3 : famN T ns + famN T ms ≤ 200 := by omega
    clear hB hm hk hokE hokB hokR hbA hbB hr hrb hrp hrq hrr hn hms n1 n2 h64
    generalize famN T (famOr T ns ms) = nE at *
    generalize famN T (famAnd T ns ms) = nO at *
    generalize famN T ns = nA at *
    generalize famN T ms = nB at *
    generalize natI (famAnd T (famBl T ns) (famBl T ms)) = rs at *
    generalize natI (famOr T ns ms) = zs at *
    generalize natI (famAnd T ns ms) = vs at *
    generalize natI (famBl T ns) = ps at *
    generalize natI (famBl T ms) = qs at *
    generalize natI ns = xs at *
    generalize natI ms = ys at *
    refine (HI.out _ _ _ _ _ _ _ _ _ _ _ _ r zs true (HV.out _ _ HB.out) HW.out HR.out HB.out HM.out HK.out hx hy kA kB X2.ints Y2.ints).mono ?_
    rintro e2 w2 ⟨A3, c3, rfl, own3, hb2⟩
    have X3 := (X2.next hb2).alloc (.cells #[.int .i64 (T : Nat), .slice A3 r c3] 27)
    have Y3 := (Y2.next hb2).alloc (.cells #[.int .i64 (T : Nat), .slice A3 r c3] 27)
    have Z3 := FamRd.start (t := (T : Nat)) (m := r) (c := c3) 27 own3.ints
    have kC := own_nil own3
    have BB3 := (BB2.trans (hb2.mono BB2.size)).alloc (by have h1 := hb2.size; have h2 := BB2.size; omega) (.cells #[.int .i64 (T : Nat), .slice A3 r c3] 27)
    have p0 := (X2.next hb2).c0
    have p1 := (X2.next hb2).c1
    have pl := (X2.next hb2).lt
    have q0 := (Y2.next hb2).c0
    have q1 := (Y2.next hb2).c1
    have ql := (Y2.next hb2).lt
    obtain ⟨W2, hW2⟩ : ∃ W2, W2 = w2.alloc (.cells #[.int .i64 (T : Nat), .slice A3 r c3] 27) := ⟨_, rfl⟩
    clear own3
    go_wp2_with fail
    rw [← hW2] at X3 Y3 Z3 BB3 ⊢
    clear hW2 X2 Y2 BB2 hb2 p0 p1 pl q0 q1 ql
    generalize w2.heap.size = b2 at *
    refine (HS.out _ _ _ _ _ _ _ _ _ _ _ _ r zs true (HV.out _ _ HB.out) HW.out HR.out HB.out HM.out HK.out hx hy kA kB X3.ints Y3.ints).mono ?_
    rintro e3 w3 ⟨A4, c4, rfl, own4, hb3⟩
    have X4 := (X3.next hb3).alloc (.cells #[.int .i64 (T : Nat), .slice A4 r c4] 27)
    have Y4 := (Y3.next hb3).alloc (.cells #[.int .i64 (T : Nat), .slice A4 r c4] 27)
    have Z4 := (Z3.next hb3).alloc (.cells #[.int .i64 (T : Nat), .slice A4 r c4] 27)
    have V4 := own4.ints.alloc (Nat.le_refl _) (.cells #[.int .i64 (T : Nat), .slice A4 r c4] 27)
    have BB4 := (BB3.trans (hb3.mono BB3.size)).alloc (by have h1 := hb3.size; have h2 := BB3.size; omega) (.cells #[.int .i64 (T : Nat), .slice A4 r c4] 27)
    have p0 := (Z3.next hb3).c0
    have p1 := (Z3.next hb3).c1
    have pl := (Z3.next hb3).lt
    clear own4 HS
    go_wp2_with fail
    clear p0 p1 pl X3 Y3 Z3 hb3 BB3
    refine (HJ.out _ _ _ _ _ _ _ zs HR.out (by omega) Z4.ints (V4.more (by simp))).mono ?_
    rintro e4 w4 ⟨rfl, hb4⟩
    have X5 := X4.next hb4
    have Y5 := Y4.next hb4
    have Z5 := Z4.next hb4
    have BB5 := BB4.trans (hb4.mono BB4.size)
    clear X4 Y4 Z4 V4 hb4 BB4
    have x0 := X5.c0
    have x1 := X5.c1
    have xl := X5.lt
    have y0 := Y5.c0
    have y1 := Y5.c1
    have yl := Y5.lt
    go_wp2_with fail
    clear x0 x1 xl y0 y1 yl
    refine (HO.out _ _ _ _ _ _ _ _ _ _ _ _ rb vs true (HV.out _ _ HB.out) HWB.out HRB.out HB.out HM.out HK.out hx hy X5.ints Y5.ints).mono ?_
    rintro e6 w6 ⟨A6, c6, rfl, own6, hb6⟩
    have X6 := (X5.next hb6).alloc (.cells #[.int .i64 (T : Nat), .slice A6 rb c6] 27)
    have Y6 := (Y5.next hb6).alloc (.cells #[.int .i64 (T : Nat), .slice A6 rb c6] 27)
    have Z6 := (Z5.next hb6).alloc (.cells #[.int .i64 (T : Nat), .slice A6 rb c6] 27)
    have V6 := FamRd.start (t := (T : Nat)) (m := rb) (c := c6) 27 own6.ints
    have BB6 := (BB5.trans (hb6.mono BB5.size)).alloc (by have h1 := hb6.size; have h2 := BB5.size; omega) (.cells #[.int .i64 (T : Nat), .slice A6 rb c6] 27)
    have p00 := (X5.next hb6).c0
    have p01 := (X5.next hb6).c1
    have p0l := (X5.next hb6).lt
    obtain ⟨W6, hW6⟩ : ∃ W6, W6 = w6.alloc (.cells #[.int .i64 (T : Nat), .slice A6 rb c6] 27) := ⟨_, rfl⟩
    clear own6
    go_wp2_with fail
    rw [← hW6] at X6 Y6 Z6 V6 BB6 ⊢
    clear hW6 X5 Y5 Z5 BB5 hb6 p00 p01 p0l
    generalize w6.heap.size = b6 at *
    refine (HL.out _ _ _ _ _ _ _ rp ps true (HVB.out _ HFA.out) HLA.out HRP.out HFA.out HM.out hx X6.ints).mono ?_
    rintro e7 w7 ⟨A7, c7, rfl, own7, hb7⟩
    have X7 := (X6.next hb7).alloc (.cells #[.int .i64 (T : Nat), .slice A7 rp c7] 27)
    have Y7 := (Y6.next hb7).alloc (.cells #[.int .i64 (T : Nat), .slice A7 rp c7] 27)
    have Z7 := (Z6.next hb7).alloc (.cells #[.int .i64 (T : Nat), .slice A7 rp c7] 27)
    have V7 := (V6.next hb7).alloc (.cells #[.int .i64 (T : Nat), .slice A7 rp c7] 27)
    have P7 := FamRd.start (t := (T : Nat)) (m := rp) (c := c7) 27 own7.ints
    have BB7 := (BB6.trans (hb7.mono BB6.size)).alloc (by have h1 := hb7.size; have h2 := BB6.size; omega) (.cells #[.int .i64 (T : Nat), .slice A7 rp c7] 27)
    have p00 := (Y6.next hb7).c0
    have p01 := (Y6.next hb7).c1
    have p0l := (Y6.next hb7).lt
    obtain ⟨W7, hW7⟩ : ∃ W7, W7 = w7.alloc (.cells #[.int .i64 (T : Nat), .slice A7 rp c7] 27) := ⟨_, rfl⟩
    clear own7
    go_wp2_with fail
    rw [← hW7] at X7 Y7 Z7 V7 P7 BB7 ⊢
    clear hW7 X6 Y6 Z6 V6 BB6 hb7 p00 p01 p0l
    generalize w7.heap.size = b7 at *
    refine (HL.out _ _ _ _ _ _ _ rq qs true (HVB.out _ HFB.out) HLB.out HRQ.out HFB.out HK.out hy Y7.ints).mono ?_
    rintro e8 w8 ⟨A8, c8, rfl, own8, hb8⟩
    have X8 := (X7.next hb8).alloc (.cells #[.int .i64 (T : Nat), .slice A8 rq c8] 27)
    have Y8 := (Y7.next hb8).alloc (.cells #[.int .i64 (T : Nat), .slice A8 rq c8] 27)
    have Z8 := (Z7.next hb8).alloc (.cells #[.int .i64 (T : Nat), .slice A8 rq c8] 27)
    have V8 := (V7.next hb8).alloc (.cells #[.int .i64 (T : Nat), .slice A8 rq c8] 27)
    have P8 := (P7.next hb8).alloc (.cells #[.int .i64 (T : Nat), .slice A8 rq c8] 27)
    have Q8 := FamRd.start (t := (T : Nat)) (m := rq) (c := c8) 27 own8.ints
    have BB8 := (BB7.trans (hb8.mono BB7.size)).alloc (by have h1 := hb8.size; have h2 := BB7.size; omega) (.cells #[.int .i64 (T : Nat), .slice A8 rq c8] 27)
    have p00 := (Z7.next hb8).c0
    have p01 := (Z7.next hb8).c1
    have p0l := (Z7.next hb8).lt
    obtain ⟨W8, hW8⟩ : ∃ W8, W8 = w8.alloc (.cells #[.int .i64 (T : Nat), .slice A8 rq c8] 27) := ⟨_, rfl⟩
    clear own8
    go_wp2_with fail
    rw [← hW8] at X8 Y8 Z8 V8 P8 Q8 BB8 ⊢
    clear hW8 X7 Y7 Z7 V7 P7 BB7 hb8 p00 p01 p0l
    generalize w8.heap.size = b8 at *
    refine (HL.out _ _ _ _ _ _ _ rr rs true (HVB.out _ HFE.out) HLE.out HRR.out HFE.out HR.out (by omega) Z8.ints).mono ?_
    rintro e9 w9 ⟨A9, c9, rfl, own9, hb9⟩
    have X9 := (X8.next hb9).alloc (.cells #[.int .i64 (T : Nat), .slice A9 rr c9] 27)
    have Y9 := (Y8.next hb9).alloc (.cells #[.int .i64 (T : Nat), .slice A9 rr c9] 27)
    have Z9 := (Z8.next hb9).alloc (.cells #[.int .i64 (T : Nat), .slice A9 rr c9] 27)
    have V9 := (V8.next hb9).alloc (.cells #[.int .i64 (T : Nat), .slice A9 rr c9] 27)
    have P9 := (P8.next hb9).alloc (.cells #[.int .i64 (T : Nat), .slice A9 rr c9] 27)
    have Q9 := (Q8.next hb9).alloc (.cells #[.int .i64 (T : Nat), .slice A9 rr c9] 27)
    have R9 := FamRd.start (t := (T : Nat)) (m := rr) (c := c9) 27 own9.ints
    have BB9 := (BB8.trans (hb9.mono BB8.size)).alloc (by have h1 := hb9.size; have h2 := BB8.size; omega) (.cells #[.int .i64 (T : Nat), .slice A9 rr c9] 27)
    have p00 := (P8.next hb9).c0
    have p01 := (P8.next hb9).c1
    have p0l := (P8.next hb9).lt
    have p10 := (Q8.next hb9).c0
    have p11 := (Q8.next hb9).c1
    have p1l := (Q8.next hb9).lt
    obtain ⟨W9, hW9⟩ : ∃ W9, W9 = w9.alloc (.cells #[.int .i64 (T : Nat), .slice A9 rr c9] 27) := ⟨_, rfl⟩
    clear own9
    go_wp2_with fail
    rw [← hW9] at X9 Y9 Z9 V9 P9 Q9 R9 BB9 ⊢
    clear hW9 X8 Y8 Z8 V8 P8 Q8 BB8 hb9 p00 p01 p0l p10 p11 p1l
    generalize w9.heap.size = b9 at *
    refine (HO.out _ _ _ _ _ _ _ _ _ _ _ _ rr rs true (HV.out _ _ HPQ.out) HWP.out HRR.out HPQ.out HRP.out HRQ.out (by omega) (by omega) P9.ints Q9.ints).mono ?_
    rintro e10 w10 ⟨A10, c10, rfl, own10, hb10⟩
    have X10 := (X9.next hb10).alloc (.cells #[.int .i64 (T : Nat), .slice A10 rr c10] 27)
    have Y10 := (Y9.next hb10).alloc (.cells #[.int .i64 (T : Nat), .slice A10 rr c10] 27)
    have Z10 := (Z9.next hb10).alloc (.cells #[.int .i64 (T : Nat), .slice A10 rr c10] 27)
    have V10 := (V9.next hb10).alloc (.cells #[.int .i64 (T : Nat), .slice A10 rr c10] 27)
    have R10 := (R9.next hb10).alloc (.cells #[.int .i64 (T : Nat), .slice A10 rr c10] 27)
    have S10 := FamRd.start (t := (T : Nat)) (m := rr) (c := c10) 27 own10.ints
    have BB10 := (BB9.trans (hb10.mono BB9.size)).alloc (by have h1 := hb10.size; have h2 := BB9.size; omega) (.cells #[.int .i64 (T : Nat), .slice A10 rr c10] 27)
    obtain ⟨W10, hW10⟩ : ∃ W10, W10 = w10.alloc (.cells #[.int .i64 (T : Nat), .slice A10 rr c10] 27) := ⟨_, rfl⟩
    clear own10
    go_wp2_with fail
    rw [← hW10] at X10 Y10 Z10 V10 R10 S10 BB10 ⊢
    clear hW10 X9 Y9 Z9 V9 R9 P9 Q9 BB9 hb10
    generalize w10.heap.size = b10 at *
    refine wp_region_class (fun u => (FamRd u b (T : Nat) A1 m c1 xs ∧ FamRd u (b + 1) (T : Nat) A2 k c2 ys ∧ FamRd u b2 (T : Nat) A3 r c3 zs ∧ FamRd u b6 (T : Nat) A6 rb c6 vs ∧ FamRd u b9 (T : Nat) A9 rr c9 rs ∧ FamRd u b10 (T : Nat) A10 rr c10 rs) ∧ Below w.heap.size w u) (by kernel_rfl) (by kernel_rfl) ⟨⟨X10.drew, Y10.drew, Z10.drew, V10.drew, R10.drew, S10.drew⟩, BB10.drew⟩ ?_
    clear X10 Y10 Z10 V10 R10 S10 BB10
    intro XX hXX f hf hex
    have k0 : ∀ x, (f x).cell? ⟨b, 0, none⟩ = some (.int .i64 (T : Nat)) := fun x => (hf x).1.1.c0
    have k1 : ∀ x, (f x).cell? ⟨b, 1, none⟩ = some (.slice A1 m c1) := fun x => (hf x).1.1.c1
    have k2 : ∀ x, (f x).cell? ⟨b + 1, 0, none⟩ = some (.int .i64 (T : Nat)) := fun x => (hf x).1.2.1.c0
    have k3 : ∀ x, (f x).cell? ⟨b + 1, 1, none⟩ = some (.slice A2 k c2) := fun x => (hf x).1.2.1.c1
    have k4 : ∀ x, (f x).cell? ⟨b2, 0, none⟩ = some (.int .i64 (T : Nat)) := fun x => (hf x).1.2.2.1.c0
    have k5 : ∀ x, (f x).cell? ⟨b2, 1, none⟩ = some (.slice A3 r c3) := fun x => (hf x).1.2.2.1.c1
    have k6 : ∀ x, (f x).cell? ⟨b6, 0, none⟩ = some (.int .i64 (T : Nat)) := fun x => (hf x).1.2.2.2.1.c0
    have k7 : ∀ x, (f x).cell? ⟨b6, 1, none⟩ = some (.slice A6 rb c6) := fun x => (hf x).1.2.2.2.1.c1
    have k8 : ∀ x, (f x).cell? ⟨b9, 0, none⟩ = some (.int .i64 (T : Nat)) := fun x => (hf x).1.2.2.2.2.1.c0
    have k9 : ∀ x, (f x).cell? ⟨b9, 1, none⟩ = some (.slice A9 rr c9) := fun x => (hf x).1.2.2.2.2.1.c1
    have k10 : ∀ x, (f x).cell? ⟨b10, 0, none⟩ = some (.int .i64 (T : Nat)) := fun x => (hf x).1.2.2.2.2.2.c0
    have k11 : ∀ x, (f x).cell? ⟨b10, 1, none⟩ = some (.slice A10 rr c10) := fun x => (hf x).1.2.2.2.2.2.c1
    have GA : Hid (∀ x, Calls Try.prog 26 #[.agg #[.int .i64 (T : Nat), .slice A1 m c1]] (f x) fun e w' => e = .returned (.int .i64 (nA : Nat)) ∧ Below (f x).heap.size (f x) w') := fun x => HC.out _ _ _ _ _ _ _ HCA.out HM.out (hx) (hf x).1.1.ints
    have GB : Hid (∀ x, Calls Try.prog 26 #[.agg #[.int .i64 (T : Nat), .slice A2 k c2]] (f x) fun e w' => e = .returned (.int .i64 (nB : Nat)) ∧ Below (f x).heap.size (f x) w') := fun x => HC.out _ _ _ _ _ _ _ HCB.out HK.out (hy) (hf x).1.2.1.ints
    have GE : Hid (∀ x, Calls Try.prog 26 #[.agg #[.int .i64 (T : Nat), .slice A3 r c3]] (f x) fun e w' => e = .returned (.int .i64 (nE : Nat)) ∧ Below (f x).heap.size (f x) w') := fun x => HC.out _ _ _ _ _ _ _ HCE.out HR.out (by omega) (hf x).1.2.2.1.ints
    have GO : Hid (∀ x, Calls Try.prog 26 #[.agg #[.int .i64 (T : Nat), .slice A6 rb c6]] (f x) fun e w' => e = .returned (.int .i64 (nO : Nat)) ∧ Below (f x).heap.size (f x) w') := fun x => HC.out _ _ _ _ _ _ _ HCO.out HRB.out (by omega) (hf x).1.2.2.2.1.ints
    have GS : Hid (∀ x, Calls Try.prog 18 #[.agg #[.int .i64 (T : Nat), .slice A9 rr c9], .agg #[.int .i64 (T : Nat), .slice A10 rr c10]] (f x) fun e w' => e = .returned (.bool true) ∧ Below (f x).heap.size (f x) w') := fun x => HJ.out _ _ _ _ _ _ _ rs HRR.out (by omega) (hf x).1.2.2.2.2.1.ints (hf x).1.2.2.2.2.2.ints
    have HD : Hid (∀ x w', Below (f x).heap.size (f x) w' → ((FamRd w' b (T : Nat) A1 m c1 xs ∧ FamRd w' (b + 1) (T : Nat) A2 k c2 ys ∧ FamRd w' b2 (T : Nat) A3 r c3 zs ∧ FamRd w' b6 (T : Nat) A6 rb c6 vs ∧ FamRd w' b9 (T : Nat) A9 rr c9 rs ∧ FamRd w' b10 (T : Nat) A10 rr c10 rs) ∧ Below w.heap.size w w')) := fun x w' hb => ⟨⟨(hf x).1.1.next hb, (hf x).1.2.1.next hb, (hf x).1.2.2.1.next hb, (hf x).1.2.2.2.1.next hb, (hf x).1.2.2.2.2.1.next hb, (hf x).1.2.2.2.2.2.next hb⟩, (hf x).2.trans (hb.mono (hf x).2.size)⟩
    obtain ⟨S, hS⟩ : ∃ S, nA + nB = S := ⟨_, rfl⟩
    rw [hS] at hsum n3
    obtain ⟨wc1, wc2⟩ := sum_eq hsum hS n3
    repeat (go_big_quiet_step (first | (go_at_call 26; first | (with_reducible exact class_of hex (GA.out _) (HD.out _)) | (with_reducible exact class_of hex (GB.out _) (HD.out _)) | (with_reducible exact class_of hex (GE.out _) (HD.out _)) | (with_reducible exact class_of hex (GO.out _) (HD.out _))) | (go_at_call 18; with_reducible exact class_of hex (GS.out _) (HD.out _))))
    refine wpQuiet_nil ?_
    rintro _ ⟨x, rfl⟩
    have F := hf x
    clear GA GB GE GO HD GS
    go_wp2_with fail
    go_returns
    exact ⟨by first | rfl | simp, F.2⟩

namespace fnEitherFamily
open Go.ChangeShapes Go.WideShapes Go.ChangeAt Go.RowKit Go.Deep Go.Joins
set_option linter.unusedVariables false
set_option maxRecDepth 100000 in
theorem lifted (os : Os) (started : os.Started) (H : Type) (enc : TypeId × Value → H) :
    ReturnsInHanded {} Try.checked os 5 .any (Rows.fnEitherFamilySpec.pre6 enc Try.prog Try.f5 Rows.fnEitherFamilyRow.domain false) (Rows.fnEitherFamilySpec.post enc Try.prog Try.f5 false true false false) := by
  refine returnsInHanded_of_change (C := Try.checked) own started (by kernel_rfl) Try.func5
    (ChangeSpec.witness6 (enc := enc) (C := Try.checked) false ⟨#[], #[.slice none 0 0], []⟩ 8 (by kernel_rfl) (by kernel_rfl) (by kernel_rfl) (by kernel_rfl)) ?_
  intro W base args ds gs before hval0 hW hcnd _
  have hval : ∀ (j : Nat) t v, Try.f5.params[j]? = some t → args[j]? = some v → Value.okWide Try.prog W .any base t v := hval0
  have hW' := hW
  obtain ⟨p, q, hA0, hV, rfl, hfz, hnd⟩ := hW
  have hA : DataW.TrodAll enc Try.prog W 0 (fun _ => true) true Try.f5.params.toList args.toList ds p := hA0
  rw [Try.params5] at hA hval
  obtain ⟨v0, vs0, d0, ds0, p0, q0, hargs, rfl, rfl, h0, r0⟩ := trodAll_cons hA
  obtain ⟨rfl, rfl, rfl⟩ := trodAll_nil r0
  obtain rfl : args = #[v0] := by cases args; simp_all
  obtain ⟨rfl, rfl⟩ := trodVars_none hV
  have k0 := h0
  have lt0 : ∀ x ∈ p0, x.block < W.heap.size := by obtain ⟨m, hm⟩ := k0; exact DataW.trod_lt m _ _ _ hm
  obtain ⟨A0, c0, bs0, rfl, hb0, hl0⟩ := open_bytes (hval 0 22 v0 rfl rfl) h0
  clear hA0 hval0
  refine (eitherFamily_law A0 c0 bs0 W hb0 hl0).mono fun e W' ⟨he, bel⟩ => ?_
  subst he
  exact ⟨_, rfl, _, _, _, [], _, [], hW', trodAll_mk1 (shut_bool Try.underlying4 _), (trodAll_cons_mk (Below.trod laidOut (by kernel_rfl) (of_decide_eq_true (by kernel_rfl)) k0 bel lt0) trodAll_mk0), rfl, bel.frame _, fun h => by cases h⟩

theorem holds : Rows.FnEitherFamilySaid :=
  OpenClaim.holds_of_wide 5 Try.f5 rfl rfl rfl rfl rfl rfl rfl ⟨rfl, rfl, rfl, rfl, rfl⟩ rfl rfl rfl rfl rfl (by kernel_rfl) Try.func5 (by kernel_rfl)
    (of_decide_eq_true (by kernel_rfl)) (by unfold Func.isWrapper; first | (rw [if_pos (by decide +kernel)]; kernel_rfl) | (rw [if_neg (by decide +kernel)]; exact ⟨rfl, rfl⟩))
    (fun os started H enc _ => lifted os started H enc)
end fnEitherFamily
end Go.Proofs.Ytmdmmebekicpkaa
