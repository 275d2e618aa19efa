/- The law FnApartFamilies holds of every code: with things of their own both are not more likely. -/
import Derived.Test.YtmdmmebekicpkaaBytes
import Derived.Test.YtmdmmebekicpkaaDrawFams
import Derived.Test.YtmdmmebekicpkaaImpl8h
import Derived.Test.YtmdmmebekicpkaaImpl8f
import Derived.Test.YtmdmmebekicpkaaFamR
import Derived.Test.YtmdmmebekicpkaaClass
import Derived.Test.YtmdmmebekicpkaaSpec8h
namespace Go.Proofs.Ytmdmmebekicpkaa
open Go.RowKit
set_option maxRecDepth 100000

theorem count_less {T P a b c : Nat} (hP : 2 ^ T = P) (h1 : a ≤ P) (h2 : b ≤ P) (h3 : c ≤ P) (h64 : P ≤ 64) (h : c * P ≤ a * b) : IntKind.i64.wrap ((c : Int) * 2 ^ T) = ((c * P : Nat) : Int) ∧ IntKind.i64.wrap ((a : Int) * (b : Int)) = ((a * b : Nat) : Int) ∧ (c : Int) * (P : Int) ≤ (a : Int) * (b : Int) := by
  have e : (2 : Int) ^ T = (P : Int) := by rw [← hP, Int.natCast_pow]; rfl
  have h4 : c * P ≤ 64 * 64 := Nat.mul_le_mul (by omega) h64
  have h5 : a * b ≤ 64 * 64 := Nat.mul_le_mul (by omega) (by omega)
  refine ⟨?_, ?_, by rw [← Int.natCast_mul, ← Int.natCast_mul]; exact Int.ofNat_le.2 h⟩
  · rw [e, ← Int.natCast_mul]; exact IntWalk.i64_in _ (by omega)
  · rw [← Int.natCast_mul]; exact IntWalk.i64_in _ (by omega)
theorem ap_has {T : Nat} {ns ms : List Nat} (hT : T ≤ 6) (z : Int) (hz : z ∈ natI (famAp T ns ms)) : famInI (T : Nat) (natI (famAnd T ns ms)) z = true := by
  obtain ⟨x, hx, rfl⟩ := List.mem_map.1 hz
  obtain ⟨h1, h2⟩ := famAp_both (by omega) hx
  rw [inI_of hT (famAnd_ok T (by omega) ns ms) h1, h2]

set_option maxHeartbeats 8000000 in
theorem apartFamilies_law (A : Option Addr) (cap l : Nat) (w : World) (hb : BytesIn w w.heap.size A l) (hc : l ≤ cap) :
    Calls Try.prog 6 #[.slice A l cap] w fun e w' => e = .returned (.bool true) ∧ Below w.heap.size w w' := by
  by_cases hbig : 1048576 < l
  · go_enter Try.func6, Try.ntmps6
    go_wp2
    go_returns
    exact ⟨rfl, Below.refl _ _⟩
  have hl : l ≤ 1048576 := by omega
  clear hbig
  have HI : Hid (∀ (u : World) (t : Int) (A : Option Addr) (c m : Nat) (xs : List Int) (s : Int) (B : Option Addr) (d k : Nat) (ys : List Int) (z : Int) (r : Nat) (zs : List Int) (v : Bool), twoT t xs s ys = z → apL t xs s ys = zs → zs.length = r → twoOk t xs s ys = v → xs.length = m → ys.length = k → m ≤ 65 → k ≤ 65 → NilOk A m c → NilOk B k d → IntsIn u u.heap.size A xs → IntsIn u u.heap.size B ys → Calls Try.prog 32 #[.agg #[.int .i64 t, .slice A m c], .agg #[.int .i64 s, .slice B k d]] u (GotM u z r zs v)) := fun u t A c m xs s B d k ys z r zs v hz hy hr hv hm hk hl hl2 kA kB hi hj => by
    subst hz hy hv hm hk
    exact (apart2_any t A c xs s B d ys u hi hj (by omega) (by omega)).mono fun _ _ k => k.m hr
  have HS : Hid (∀ (u : World) (t : Int) (A : Option Addr) (c m : Nat) (xs : List Int) (s : Int) (B : Option Addr) (d k : Nat) (ys : List Int) (z : Int) (r : Nat) (zs : List Int) (v : Bool), twoT t xs s ys = z → apL t xs s ys = zs → zs.length = r → twoOk t xs s ys = v → xs.length = m → ys.length = k → m ≤ 65 → k ≤ 65 → NilOk A m c → NilOk B k d → IntsIn u u.heap.size A xs → IntsIn u u.heap.size B ys → Calls Try.prog 33 #[.agg #[.int .i64 t, .slice A m c], .agg #[.int .i64 s, .slice B k d]] u (GotM u z r zs v)) := fun u t A c m xs s B d k ys z r zs v hz hy hr hv hm hk hl hl2 kA kB hi hj => by
    subst hz hy hv hm hk
    exact (specApart_any t A c xs s B d ys u hi hj (by unfold maxLen; omega) (by unfold maxLen; omega)).mono fun _ _ k => k.m hr
  have HO : Hid (∀ (u : World) (t : Int) (A : Option Addr) (c m : Nat) (xs : List Int) (s : Int) (B : Option Addr) (d k : Nat) (ys : List Int) (z : Int) (r : Nat) (zs : List Int) (v : Bool), twoT t xs s ys = z → andL t xs s ys = zs → zs.length = r → twoOk t xs s ys = v → xs.length = m → ys.length = k → m ≤ 65 → k ≤ 65 → IntsIn u u.heap.size A xs → IntsIn u u.heap.size B ys → Calls Try.prog 24 #[.agg #[.int .i64 t, .slice A m c], .agg #[.int .i64 s, .slice B k d]] u (GotM u z r zs v)) := fun u t A c m xs s B d k ys z r zs v hz hy hr hv hm hk hl hl2 hi hj => by
    subst hz hy hv hm hk
    exact (both_any t A c xs s B d ys u hi hj (by omega) (by omega)).mono fun _ _ k => k.m hr
  have HN : Hid (∀ (u : World) (t : Int) (A : Option Addr) (c m : Nat) (xs : List Int) (s : Int) (v : Bool), famInI t xs s = v → xs.length = m → m ≤ 65 → IntsIn u u.heap.size A xs → Calls Try.prog 20 #[.agg #[.int .i64 t, .slice A m c], .int .i64 s] u fun e w' => e = .returned (.bool v) ∧ Below u.heap.size u w') := fun u t A c m xs s v hv hm hl hi => by
    subst hv hm; exact inOk_any t A c xs s u hi (by omega)
  have HC : Hid (∀ (u : World) (t : Int) (A : Option Addr) (c m : Nat) (xs : List Int) (v : Int), famCountI t xs = v → xs.length = m → m ≤ 65 → IntsIn u u.heap.size A xs → Calls Try.prog 26 #[.agg #[.int .i64 t, .slice A m c]] u fun e w' => e = .returned (.int .i64 v) ∧ Below u.heap.size u w') := fun u t A c m xs v hv hm hl hi => by
    subst hv hm; exact countIn_any t A c xs u hi (by omega)
  have HJ : Hid (∀ (u : World) (t : Int) (A B : Option Addr) (c d m : Nat) (xs : List Int), xs.length = m → m ≤ 65 → IntsIn u u.heap.size A xs → IntsIn u u.heap.size B xs → Calls Try.prog 18 #[.agg #[.int .i64 t, .slice A m c], .agg #[.int .i64 t, .slice B m d]] u fun e w' => e = .returned (.bool true) ∧ Below u.heap.size u w') := fun u t A B c d m xs hm hl h1 h2 => sameFamily_self t A B c d m xs u h1 h2 hm (by omega)
  go_enter Try.func6, Try.ntmps6
  go_wp2_with fail
  refine (drawApartFamilies_any _ _ _ _ hb hl hc).mono ?_
  rintro e1 w1 ⟨t, A1, c1, xs, s, A2, c2, ys, rfl, own1, own2, ht, hx, hs, hy, BB1⟩
  obtain ⟨m, hm⟩ : ∃ m, xs.length = m := ⟨_, rfl⟩
  obtain ⟨k, hk⟩ : ∃ k, ys.length = k := ⟨_, rfl⟩
  rw [hm] at own1 hx ⊢
  rw [hk] at own2 hy ⊢
  have HM := Lib.hid hm
  have HK := Lib.hid hk
  clear hb hl hc
  go_wp2_with fail
  have X1 := FamRd.start (t := t) (m := m) (c := c1) 27 own1.ints
  have X2 := X1.alloc (.cells #[.int .i64 s, .slice A2 k c2] 27)
  have Y2 := FamRd.start (t := s) (m := k) (c := c2) 27 (own2.ints.alloc (Nat.le_refl _) (.cells #[.int .i64 t, .slice A1 m c1] 27) |>.more (by simp))
  have kA := own_nil own1
  have kB := own_nil own2
  have BB2 := (BB1.alloc BB1.size (.cells #[.int .i64 t, .slice A1 m c1] 27)).alloc (by have := BB1.size; simp; omega) (.cells #[.int .i64 s, .slice A2 k c2] 27)
  rw [World.size_alloc] at Y2
  obtain ⟨W, hW⟩ : ∃ W, W = (w1.alloc (.cells #[.int .i64 t, .slice A1 m c1] 27)).alloc (.cells #[.int .i64 s, .slice A2 k c2] 27) := ⟨_, rfl⟩
  rw [← hW] at X2 Y2 BB2 ⊢
  clear X1 own1 own2 BB1 hW
  generalize w1.heap.size = b at *
  cases hB : twoOk t xs s ys with
  | false =>
    have HB := Lib.hid hB
    have HV : Hid (twoT t xs s ys = 0) := by unfold Hid twoT; rw [hB]; rfl
    have HW : Hid (apL t xs s ys = []) := by unfold Hid apL; rw [hB]; rfl
    clear hB hm hk
    refine (HI.out _ _ _ _ _ _ _ _ _ _ _ 0 0 [] false HV.out HW.out rfl HB.out HM.out HK.out hx hy kA kB X2.ints Y2.ints).mono ?_
    rintro e2 w2 ⟨A3, c3, rfl, own3, hb2⟩
    have X3 := (X2.next hb2).alloc (.cells #[.int .i64 0, .slice A3 0 c3] 27)
    have Y3 := (Y2.next hb2).alloc (.cells #[.int .i64 0, .slice A3 0 c3] 27)
    have Z3 := FamRd.start (t := 0) (m := 0) (c := c3) 27 own3.ints
    have BB3 := (BB2.trans (hb2.mono BB2.size)).alloc (by have h1 := hb2.size; have h2 := BB2.size; omega) (.cells #[.int .i64 0, .slice A3 0 c3] 27)
    have p0 := (X2.next hb2).c0
    have p1 := (X2.next hb2).c1
    have pl := (X2.next hb2).lt
    have q0 := (Y2.next hb2).c0
    have q1 := (Y2.next hb2).c1
    have ql := (Y2.next hb2).lt
    obtain ⟨W2, hW2⟩ : ∃ W2, W2 = w2.alloc (.cells #[.int .i64 0, .slice A3 0 c3] 27) := ⟨_, rfl⟩
    clear own3
    go_wp2_with fail
    rw [← hW2] at X3 Y3 Z3 BB3 ⊢
    clear hW2 X2 Y2 BB2 hb2 p0 p1 pl q0 q1 ql
    generalize w2.heap.size = b2 at *
    refine (HS.out _ _ _ _ _ _ _ _ _ _ _ 0 0 [] false HV.out HW.out rfl HB.out HM.out HK.out hx hy kA kB X3.ints Y3.ints).mono ?_
    rintro e3 w3 ⟨A4, c4, rfl, own4, hb3⟩
    have Z4 := (Z3.next hb3).alloc (.cells #[.int .i64 0, .slice A4 0 c4] 27)
    have BB4 := (BB3.trans (hb3.mono BB3.size)).alloc (by have h1 := hb3.size; have h2 := BB3.size; omega) (.cells #[.int .i64 0, .slice A4 0 c4] 27)
    have p0 := (Z3.next hb3).c0
    have p1 := (Z3.next hb3).c1
    have pl := (Z3.next hb3).lt
    clear own4 HS HI
    go_wp2_with fail
    clear p0 p1 pl Z3 hb3 BB3
    have p0 := Z4.c0
    have p1 := Z4.c1
    have pl := Z4.lt
    refine (HJ.out _ 0 _ _ _ _ 0 [] rfl (by omega) IntsIn.nil IntsIn.nil).mono ?_
    rintro e4 w4 ⟨rfl, hb4⟩
    have Z5 := Z4.next hb4
    have BB5 := BB4.trans (hb4.mono BB4.size)
    clear p0 p1 pl Z4 hb4 BB4
    have p0 := Z5.c0
    have p1 := Z5.c1
    have pl := Z5.lt
    go_wp2_with fail
    refine (HJ.out _ 0 _ _ _ _ 0 [] rfl (by omega) IntsIn.nil IntsIn.nil).mono ?_
    rintro e5 w5 ⟨rfl, hb5⟩
    have BB6 := BB5.trans (hb5.mono BB5.size)
    clear p0 p1 pl Z5 hb5 BB5
    go_wp2_with fail
    refine (alive_any _).mono ?_
    rintro e7 w7 ⟨rfl, hb7⟩
    go_wp2_with fail
    go_returns
    exact ⟨by first | rfl | simp, BB6.trans (hb7.mono BB6.size)⟩
  | true =>
    obtain ⟨T, ns, ms, rfl, rfl, hT, rfl, rfl, hn, hms⟩ := twoOk_iff.1 hB
    have HB := Lib.hid hB
    have HV : Hid (∀ xs ys, twoOk (T : Nat) xs (T : Nat) ys = true → twoT (T : Nat) xs (T : Nat) ys = (T : Nat)) := fun xs ys h => by unfold twoT; rw [h]; rfl
    have HW := Lib.hid (apL_of hT hn hms)
    have HWB := Lib.hid (andL_of hT hn hms)
    have HB2 := Lib.hid (two_of hT hms hn)
    have HW2 := Lib.hid ((apL_of hT hms hn).trans (by rw [famAp_swap]))
    have hokE := famAp_ok T (by omega) ns ms
    have hokB := famAnd_ok T (by omega) ns ms
    obtain ⟨r, hr⟩ : ∃ r, (natI (famAp T ns ms)).length = r := ⟨_, rfl⟩
    have hr64 : r ≤ 64 := by
      have h1 := hokE.len
      have h2 := pow_64 hT
      rw [← hr, natI_length]; omega
    have HR := Lib.hid hr
    obtain ⟨rb, hrb⟩ : ∃ r, (natI (famAnd T ns ms)).length = r := ⟨_, rfl⟩
    have hrb64 : rb ≤ 64 := by
      have h1 := hokB.len
      have h2 := pow_64 hT
      rw [← hrb, natI_length]; omega
    have HRB := Lib.hid hrb
    have HHAS := Lib.hid (ap_has (ns := ns) (ms := ms) hT)
    have HCA := Lib.hid (countI_of hT hn)
    have HCB := Lib.hid (countI_of hT hms)
    have HCC := Lib.hid (countI_of hT hokE)
    have hmore := famAp_less (T := T) (by omega) ns ms
    have n1 := famN_le T ns
    have n2 := famN_le T ms
    have n3 := famN_le T (famAp T ns ms)
    obtain ⟨P, hP, p1', p2', hp3, hp4⟩ := pow_named12 (show T ≤ 13 by omega)
    have hP64 : P ≤ 64 := by rw [← hP]; exact pow_64 hT
    have hmin : min T 64 = T := by omega
    rw [hP] at hmore n1 n2 n3
    have HP := Lib.hid hP
    clear hB hm hk hokE hokB hr hrb hn hms hP
    generalize famN T (famAp T ns ms) = nC at *
    generalize famN T ns = nA at *
    generalize famN T ms = nB at *
    generalize natI (famAp T ns ms) = zs at *
    generalize natI (famAnd T ns ms) = vs at *
    generalize natI ns = xs at *
    generalize natI ms = ys at *
    refine (HI.out _ _ _ _ _ _ _ _ _ _ _ _ r zs true (HV.out _ _ HB.out) HW.out HR.out HB.out HM.out HK.out hx hy kA kB X2.ints Y2.ints).mono ?_
    rintro e2 w2 ⟨A3, c3, rfl, own3, hb2⟩
    have X3 := (X2.next hb2).alloc (.cells #[.int .i64 (T : Nat), .slice A3 r c3] 27)
    have Y3 := (Y2.next hb2).alloc (.cells #[.int .i64 (T : Nat), .slice A3 r c3] 27)
    have Z3 := FamRd.start (t := (T : Nat)) (m := r) (c := c3) 27 own3.ints
    have kC := own_nil own3
    have BB3 := (BB2.trans (hb2.mono BB2.size)).alloc (by have h1 := hb2.size; have h2 := BB2.size; omega) (.cells #[.int .i64 (T : Nat), .slice A3 r c3] 27)
    have p0 := (X2.next hb2).c0
    have p1 := (X2.next hb2).c1
    have pl := (X2.next hb2).lt
    have q0 := (Y2.next hb2).c0
    have q1 := (Y2.next hb2).c1
    have ql := (Y2.next hb2).lt
    obtain ⟨W2, hW2⟩ : ∃ W2, W2 = w2.alloc (.cells #[.int .i64 (T : Nat), .slice A3 r c3] 27) := ⟨_, rfl⟩
    clear own3
    go_wp2_with fail
    rw [← hW2] at X3 Y3 Z3 BB3 ⊢
    clear hW2 X2 Y2 BB2 hb2 p0 p1 pl q0 q1 ql
    generalize w2.heap.size = b2 at *
    refine (HS.out _ _ _ _ _ _ _ _ _ _ _ _ r zs true (HV.out _ _ HB.out) HW.out HR.out HB.out HM.out HK.out hx hy kA kB X3.ints Y3.ints).mono ?_
    rintro e3 w3 ⟨A4, c4, rfl, own4, hb3⟩
    have X4 := (X3.next hb3).alloc (.cells #[.int .i64 (T : Nat), .slice A4 r c4] 27)
    have Y4 := (Y3.next hb3).alloc (.cells #[.int .i64 (T : Nat), .slice A4 r c4] 27)
    have Z4 := (Z3.next hb3).alloc (.cells #[.int .i64 (T : Nat), .slice A4 r c4] 27)
    have V4 := own4.ints.alloc (Nat.le_refl _) (.cells #[.int .i64 (T : Nat), .slice A4 r c4] 27)
    have BB4 := (BB3.trans (hb3.mono BB3.size)).alloc (by have h1 := hb3.size; have h2 := BB3.size; omega) (.cells #[.int .i64 (T : Nat), .slice A4 r c4] 27)
    have p0 := (Z3.next hb3).c0
    have p1 := (Z3.next hb3).c1
    have pl := (Z3.next hb3).lt
    clear own4 HS
    go_wp2_with fail
    clear p0 p1 pl X3 Y3 Z3 hb3 BB3
    refine (HJ.out _ _ _ _ _ _ _ zs HR.out (by omega) Z4.ints (V4.more (by simp))).mono ?_
    rintro e4 w4 ⟨rfl, hb4⟩
    have X5 := X4.next hb4
    have Y5 := Y4.next hb4
    have Z5 := Z4.next hb4
    have BB5 := BB4.trans (hb4.mono BB4.size)
    clear X4 Y4 Z4 V4 hb4 BB4
    have x0 := X5.c0
    have x1 := X5.c1
    have xl := X5.lt
    have y0 := Y5.c0
    have y1 := Y5.c1
    have yl := Y5.lt
    go_wp2_with fail
    clear x0 x1 xl y0 y1 yl
    refine (HO.out _ _ _ _ _ _ _ _ _ _ _ _ rb vs true (HV.out _ _ HB.out) HWB.out HRB.out HB.out HM.out HK.out hx hy X5.ints Y5.ints).mono ?_
    rintro e6 w6 ⟨A6, c6, rfl, own6, hb6⟩
    have X6 := (X5.next hb6).alloc (.cells #[.int .i64 (T : Nat), .slice A6 rb c6] 27)
    have Y6 := (Y5.next hb6).alloc (.cells #[.int .i64 (T : Nat), .slice A6 rb c6] 27)
    have Z6 := (Z5.next hb6).alloc (.cells #[.int .i64 (T : Nat), .slice A6 rb c6] 27)
    have V6 := FamRd.start (t := (T : Nat)) (m := rb) (c := c6) 27 own6.ints
    have BB6 := (BB5.trans (hb6.mono BB5.size)).alloc (by have h1 := hb6.size; have h2 := BB5.size; omega) (.cells #[.int .i64 (T : Nat), .slice A6 rb c6] 27)
    obtain ⟨W6, hW6⟩ : ∃ W6, W6 = w6.alloc (.cells #[.int .i64 (T : Nat), .slice A6 rb c6] 27) := ⟨_, rfl⟩
    clear own6
    go_wp2_with fail
    rw [← hW6] at X6 Y6 Z6 V6 BB6 ⊢
    clear hW6 X5 Y5 Z5 BB5 hb6 
    generalize w6.heap.size = b6 at *
    go_loopw [11] (fun i wr => ∃ j : Nat, j ≤ r ∧ i = .int .i64 j ∧ FamRd wr b (T : Nat) A1 m c1 xs ∧ FamRd wr (b + 1) (T : Nat) A2 k c2 ys ∧ FamRd wr b2 (T : Nat) A3 r c3 zs ∧ FamRd wr b6 (T : Nat) A6 rb c6 vs ∧ Below w.heap.size w wr) (fun i _ => r - (intOf i).toNat)
    case atStart => exact ⟨0, by omega, rfl, X6, Y6, Z6, V6, BB6⟩
    case round =>
      clear X6 Y6 Z6 V6 BB6
      obtain ⟨j, hj, rfl, X, Y, Z, V, BB⟩ := hrel
      have p0 := Z.c0
      have p1 := Z.c1
      have pl := Z.lt
      by_cases hlt : j < r
      · obtain ⟨z, hz⟩ : ∃ z, zs[j]? = some z := ⟨_, List.getElem?_eq_getElem (by have := HR.out; omega)⟩
        have hhas := HHAS.out z (List.mem_of_getElem? hz)
        obtain ⟨bb, off, rfl, hbb, g1⟩ := Z.ints j _ hz
        go_wp2_with fail
        refine wp_region_class (fun u => (FamRd u b (T : Nat) A1 m c1 xs ∧ FamRd u (b + 1) (T : Nat) A2 k c2 ys ∧ FamRd u b2 (T : Nat) (some ⟨bb, off, none⟩) r c3 zs ∧ FamRd u b6 (T : Nat) A6 rb c6 vs) ∧ Below w.heap.size w u) (by kernel_rfl) (by kernel_rfl) ⟨⟨X.drew, Y.drew, Z.drew, V.drew⟩, BB.drew⟩ ?_
        clear X Y Z V BB p0 p1 pl g1 hbb
        intro XX hXX f hf hex
        have k0 : ∀ x, (f x).cell? ⟨b, 0, none⟩ = some (.int .i64 (T : Nat)) := fun x => (hf x).1.1.c0
        have k1 : ∀ x, (f x).cell? ⟨b, 1, none⟩ = some (.slice A1 m c1) := fun x => (hf x).1.1.c1
        have k2 : ∀ x, (f x).cell? ⟨b + 1, 0, none⟩ = some (.int .i64 (T : Nat)) := fun x => (hf x).1.2.1.c0
        have k3 : ∀ x, (f x).cell? ⟨b + 1, 1, none⟩ = some (.slice A2 k c2) := fun x => (hf x).1.2.1.c1
        have k4 : ∀ x, (f x).cell? ⟨b2, 0, none⟩ = some (.int .i64 (T : Nat)) := fun x => (hf x).1.2.2.1.c0
        have k5 : ∀ x, (f x).cell? ⟨b2, 1, none⟩ = some (.slice (some ⟨bb, off, none⟩) r c3) := fun x => (hf x).1.2.2.1.c1
        have k6 : ∀ x, (f x).cell? ⟨b6, 0, none⟩ = some (.int .i64 (T : Nat)) := fun x => (hf x).1.2.2.2.c0
        have k7 : ∀ x, (f x).cell? ⟨b6, 1, none⟩ = some (.slice A6 rb c6) := fun x => (hf x).1.2.2.2.c1
        have k9 : ∀ x, (f x).cell? ⟨bb, off + j, none⟩ = some (.int .i64 z) := fun x => by
          obtain ⟨b', off', e, _, g⟩ := (hf x).1.2.2.1.ints j _ hz
          injection e with e
          injection e with e1 e2
          subst e1 e2
          exact g
        have HG : Hid (∀ x, Calls Try.prog 20 #[.agg #[.int .i64 (T : Nat), .slice A6 rb c6], .int .i64 z] (f x) fun e w' => e = .returned (.bool true) ∧ Below (f x).heap.size (f x) w') := fun x => HN.out _ _ _ _ _ _ _ _ hhas HRB.out (by omega) (hf x).1.2.2.2.ints
        have HD : Hid (∀ x w', Below (f x).heap.size (f x) w' → ((FamRd w' b (T : Nat) A1 m c1 xs ∧ FamRd w' (b + 1) (T : Nat) A2 k c2 ys ∧ FamRd w' b2 (T : Nat) (some ⟨bb, off, none⟩) r c3 zs ∧ FamRd w' b6 (T : Nat) A6 rb c6 vs) ∧ Below w.heap.size w w')) := fun x w' hb => ⟨⟨(hf x).1.1.next hb, (hf x).1.2.1.next hb, (hf x).1.2.2.1.next hb, (hf x).1.2.2.2.next hb⟩, (hf x).2.trans (hb.mono (hf x).2.size)⟩
        clear hhas
        repeat (go_big_quiet_step (first | (go_at_call 20; with_reducible exact class_of hex (HG.out _) (HD.out _))))
        refine wpQuiet_nil ?_
        rintro _ ⟨x, rfl⟩
        have F := hf x
        clear HG HD k0 k1 k2 k3 k4 k5 k6 k7 k9
        go_wp2_with fail
        go_roundw
        case rel => exact ⟨j + 1, by omega, by go_num, F.1.1, F.1.2.1, F.1.2.2.1, F.1.2.2.2, F.2⟩
        case measure => simp [intOf]; omega
      · obtain rfl : j = r := by omega
        have x0 := X.c0
        have x1 := X.c1
        have xl := X.lt
        have y0 := Y.c0
        have y1 := Y.c1
        have yl := Y.lt
        go_wp2_with fail
        clear x0 x1 xl y0 y1 yl p0 p1 pl
        have X8 := X
        have Y8 := Y
        have Z8 := Z
        have V8 := V
        have BB8 := BB
        clear X Y Z V BB
        refine (HI.out _ _ _ _ _ _ _ _ _ _ _ _ j zs true (HV.out _ _ HB2.out) HW2.out HR.out HB2.out HK.out HM.out hy hx kB kA Y8.ints X8.ints).mono ?_
        rintro e9 w9 ⟨A9, c9, rfl, own9, hb9⟩
        have X9 := (X8.next hb9).alloc (.cells #[.int .i64 (T : Nat), .slice A9 j c9] 27)
        have Y9 := (Y8.next hb9).alloc (.cells #[.int .i64 (T : Nat), .slice A9 j c9] 27)
        have Z9 := (Z8.next hb9).alloc (.cells #[.int .i64 (T : Nat), .slice A9 j c9] 27)
        have V9 := (V8.next hb9).alloc (.cells #[.int .i64 (T : Nat), .slice A9 j c9] 27)
        have S9 := FamRd.start (t := (T : Nat)) (m := j) (c := c9) 27 own9.ints
        have BB9 := (BB8.trans (hb9.mono BB8.size)).alloc (by have h1 := hb9.size; have h2 := BB8.size; omega) (.cells #[.int .i64 (T : Nat), .slice A9 j c9] 27)
        obtain ⟨W9, hW9⟩ : ∃ W9, W9 = w9.alloc (.cells #[.int .i64 (T : Nat), .slice A9 j c9] 27) := ⟨_, rfl⟩
        clear own9
        go_wp2_with fail
        rw [← hW9] at X9 Y9 Z9 V9 S9 BB9 ⊢
        clear hW9 X8 Y8 Z8 V8 BB8 hb9 
        generalize w9.heap.size = b9 at *
        refine wp_region_class (fun u => (FamRd u b (T : Nat) A1 m c1 xs ∧ FamRd u (b + 1) (T : Nat) A2 k c2 ys ∧ FamRd u b2 (T : Nat) A3 j c3 zs ∧ FamRd u b9 (T : Nat) A9 j c9 zs) ∧ Below w.heap.size w u) (by kernel_rfl) (by kernel_rfl) ⟨⟨X9.drew, Y9.drew, Z9.drew, S9.drew⟩, BB9.drew⟩ ?_
        clear X9 Y9 Z9 V9 S9 BB9
        intro XX hXX f hf hex
        have k0 : ∀ x, (f x).cell? ⟨b, 0, none⟩ = some (.int .i64 (T : Nat)) := fun x => (hf x).1.1.c0
        have k1 : ∀ x, (f x).cell? ⟨b, 1, none⟩ = some (.slice A1 m c1) := fun x => (hf x).1.1.c1
        have k2 : ∀ x, (f x).cell? ⟨b + 1, 0, none⟩ = some (.int .i64 (T : Nat)) := fun x => (hf x).1.2.1.c0
        have k3 : ∀ x, (f x).cell? ⟨b + 1, 1, none⟩ = some (.slice A2 k c2) := fun x => (hf x).1.2.1.c1
        have k4 : ∀ x, (f x).cell? ⟨b2, 0, none⟩ = some (.int .i64 (T : Nat)) := fun x => (hf x).1.2.2.1.c0
        have k5 : ∀ x, (f x).cell? ⟨b2, 1, none⟩ = some (.slice A3 j c3) := fun x => (hf x).1.2.2.1.c1
        have k6 : ∀ x, (f x).cell? ⟨b9, 0, none⟩ = some (.int .i64 (T : Nat)) := fun x => (hf x).1.2.2.2.c0
        have k7 : ∀ x, (f x).cell? ⟨b9, 1, none⟩ = some (.slice A9 j c9) := fun x => (hf x).1.2.2.2.c1
        have GA : Hid (∀ x, Calls Try.prog 26 #[.agg #[.int .i64 (T : Nat), .slice A1 m c1]] (f x) fun e w' => e = .returned (.int .i64 (nA : Nat)) ∧ Below (f x).heap.size (f x) w') := fun x => HC.out _ _ _ _ _ _ _ HCA.out HM.out (hx) (hf x).1.1.ints
        have GB : Hid (∀ x, Calls Try.prog 26 #[.agg #[.int .i64 (T : Nat), .slice A2 k c2]] (f x) fun e w' => e = .returned (.int .i64 (nB : Nat)) ∧ Below (f x).heap.size (f x) w') := fun x => HC.out _ _ _ _ _ _ _ HCB.out HK.out (hy) (hf x).1.2.1.ints
        have GE : Hid (∀ x, Calls Try.prog 26 #[.agg #[.int .i64 (T : Nat), .slice A3 j c3]] (f x) fun e w' => e = .returned (.int .i64 (nC : Nat)) ∧ Below (f x).heap.size (f x) w') := fun x => HC.out _ _ _ _ _ _ _ HCC.out HR.out (by omega) (hf x).1.2.2.1.ints
        have GS : Hid (∀ x, Calls Try.prog 18 #[.agg #[.int .i64 (T : Nat), .slice A9 j c9], .agg #[.int .i64 (T : Nat), .slice A3 j c3]] (f x) fun e w' => e = .returned (.bool true) ∧ Below (f x).heap.size (f x) w') := fun x => HJ.out _ _ _ _ _ _ _ zs HR.out (by omega) (hf x).1.2.2.2.ints (hf x).1.2.2.1.ints
        have HD : Hid (∀ x w', Below (f x).heap.size (f x) w' → ((FamRd w' b (T : Nat) A1 m c1 xs ∧ FamRd w' (b + 1) (T : Nat) A2 k c2 ys ∧ FamRd w' b2 (T : Nat) A3 j c3 zs ∧ FamRd w' b9 (T : Nat) A9 j c9 zs) ∧ Below w.heap.size w w')) := fun x w' hb => ⟨⟨(hf x).1.1.next hb, (hf x).1.2.1.next hb, (hf x).1.2.2.1.next hb, (hf x).1.2.2.2.next hb⟩, (hf x).2.trans (hb.mono (hf x).2.size)⟩
        obtain ⟨wc1, wc2, wc3⟩ := count_less HP.out n1 n2 n3 hP64 hmore
        repeat (go_big_quiet_step (first | (go_at_call 26; first | (with_reducible exact class_of hex (GA.out _) (HD.out _)) | (with_reducible exact class_of hex (GB.out _) (HD.out _)) | (with_reducible exact class_of hex (GE.out _) (HD.out _))) | (go_at_call 18; with_reducible exact class_of hex (GS.out _) (HD.out _))))
        refine wpQuiet_nil ?_
        rintro _ ⟨x, rfl⟩
        have F := hf x
        clear GA GB GE HD GS
        go_wp2_with fail
        go_returns
        exact ⟨by first | rfl | (simp; done) | (simp; exact wc3), F.2⟩

namespace fnApartFamilies
open Go.ChangeShapes Go.WideShapes Go.ChangeAt Go.RowKit Go.Deep Go.Joins
set_option linter.unusedVariables false
set_option maxRecDepth 100000 in
theorem lifted (os : Os) (started : os.Started) (H : Type) (enc : TypeId × Value → H) :
    ReturnsInHanded {} Try.checked os 6 .any (Rows.fnApartFamiliesSpec.pre6 enc Try.prog Try.f6 Rows.fnApartFamiliesRow.domain false) (Rows.fnApartFamiliesSpec.post enc Try.prog Try.f6 false true false false) := by
  refine returnsInHanded_of_change (C := Try.checked) own started (by kernel_rfl) Try.func6
    (ChangeSpec.witness6 (enc := enc) (C := Try.checked) false ⟨#[], #[.slice none 0 0], []⟩ 8 (by kernel_rfl) (by kernel_rfl) (by kernel_rfl) (by kernel_rfl)) ?_
  intro W base args ds gs before hval0 hW hcnd _
  have hval : ∀ (j : Nat) t v, Try.f6.params[j]? = some t → args[j]? = some v → Value.okWide Try.prog W .any base t v := hval0
  have hW' := hW
  obtain ⟨p, q, hA0, hV, rfl, hfz, hnd⟩ := hW
  have hA : DataW.TrodAll enc Try.prog W 0 (fun _ => true) true Try.f6.params.toList args.toList ds p := hA0
  rw [Try.params6] at hA hval
  obtain ⟨v0, vs0, d0, ds0, p0, q0, hargs, rfl, rfl, h0, r0⟩ := trodAll_cons hA
  obtain ⟨rfl, rfl, rfl⟩ := trodAll_nil r0
  obtain rfl : args = #[v0] := by cases args; simp_all
  obtain ⟨rfl, rfl⟩ := trodVars_none hV
  have k0 := h0
  have lt0 : ∀ x ∈ p0, x.block < W.heap.size := by obtain ⟨m, hm⟩ := k0; exact DataW.trod_lt m _ _ _ hm
  obtain ⟨A0, c0, bs0, rfl, hb0, hl0⟩ := open_bytes (hval 0 22 v0 rfl rfl) h0
  clear hA0 hval0
  refine (apartFamilies_law A0 c0 bs0 W hb0 hl0).mono fun e W' ⟨he, bel⟩ => ?_
  subst he
  exact ⟨_, rfl, _, _, _, [], _, [], hW', trodAll_mk1 (shut_bool Try.underlying4 _), (trodAll_cons_mk (Below.trod laidOut (by kernel_rfl) (of_decide_eq_true (by kernel_rfl)) k0 bel lt0) trodAll_mk0), rfl, bel.frame _, fun h => by cases h⟩

theorem holds : Rows.FnApartFamiliesSaid :=
  OpenClaim.holds_of_wide 6 Try.f6 rfl rfl rfl rfl rfl rfl rfl ⟨rfl, rfl, rfl, rfl, rfl⟩ rfl rfl rfl rfl rfl (by kernel_rfl) Try.func6 (by kernel_rfl)
    (of_decide_eq_true (by kernel_rfl)) (by unfold Func.isWrapper; first | (rw [if_pos (by decide +kernel)]; kernel_rfl) | (rw [if_neg (by decide +kernel)]; exact ⟨rfl, rfl⟩))
    (fun os started H enc _ => lifted os started H enc)
end fnApartFamilies
end Go.Proofs.Ytmdmmebekicpkaa
