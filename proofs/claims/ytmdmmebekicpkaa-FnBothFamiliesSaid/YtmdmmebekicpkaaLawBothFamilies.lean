/- The law FnBothFamilies holds of every code: both are not less likely together. -/
import Derived.Test.YtmdmmebekicpkaaBytes
import Derived.Test.YtmdmmebekicpkaaDrawFams
import Derived.Test.YtmdmmebekicpkaaImpl8h
import Derived.Test.YtmdmmebekicpkaaImpl8f
import Derived.Test.YtmdmmebekicpkaaFamR
namespace Go.Proofs.Ytmdmmebekicpkaa
open Go.RowKit
set_option maxRecDepth 100000

theorem count_cmp {T P a b c : Nat} (hP : 2 ^ T = P) (h1 : a ≤ P) (h2 : b ≤ P) (h3 : c ≤ P) (h64 : P ≤ 64) (h : a * b ≤ c * P) : IntKind.i64.wrap ((c : Int) * 2 ^ T) = ((c * P : Nat) : Int) ∧ IntKind.i64.wrap ((a : Int) * (b : Int)) = ((a * b : Nat) : Int) ∧ (a : Int) * (b : Int) ≤ (c : Int) * (P : Int) := by
  have e : (2 : Int) ^ T = (P : Int) := by rw [← hP, Int.natCast_pow]; rfl
  have h4 : c * P ≤ 64 * 64 := Nat.mul_le_mul (by omega) h64
  have h5 : a * b ≤ 64 * 64 := Nat.mul_le_mul (by omega) (by omega)
  refine ⟨?_, ?_, by rw [← Int.natCast_mul, ← Int.natCast_mul]; exact Int.ofNat_le.2 h⟩
  · rw [e, ← Int.natCast_mul]; exact IntWalk.i64_in _ (by omega)
  · rw [← Int.natCast_mul]; exact IntWalk.i64_in _ (by omega)

set_option maxHeartbeats 8000000 in
theorem bothFamilies_law (A : Option Addr) (cap l : Nat) (w : World) (hb : BytesIn w w.heap.size A l) (hc : l ≤ cap) :
    Calls Try.prog 4 #[.slice A l cap] w fun e w' => e = .returned (.bool true) ∧ Below w.heap.size w w' := by
  by_cases hbig : 1048576 < l
  · go_enter Try.func4, Try.ntmps4
    go_wp2
    go_returns
    exact ⟨rfl, Below.refl _ _⟩
  have hl : l ≤ 1048576 := by omega
  clear hbig
  have HI : Hid (∀ (u : World) (t : Int) (A : Option Addr) (c m : Nat) (xs : List Int) (s : Int) (B : Option Addr) (d k : Nat) (ys : List Int) (z : Int) (r : Nat) (zs : List Int) (v : Bool), twoT t xs s ys = z → andL t xs s ys = zs → zs.length = r → twoOk t xs s ys = v → xs.length = m → ys.length = k → m ≤ 65 → k ≤ 65 → NilOk A m c → NilOk B k d → IntsIn u u.heap.size A xs → IntsIn u u.heap.size B ys → Calls Try.prog 24 #[.agg #[.int .i64 t, .slice A m c], .agg #[.int .i64 s, .slice B k d]] u (GotM u z r zs v)) := fun u t A c m xs s B d k ys z r zs v hz hy hr hv hm hk hl hl2 kA kB hi hj => by
    subst hz hy hv hm hk
    exact (both_any t A c xs s B d ys u hi hj (by omega) (by omega)).mono fun _ _ k => k.m hr
  have HS : Hid (∀ (u : World) (t : Int) (A : Option Addr) (c m : Nat) (xs : List Int) (s : Int) (B : Option Addr) (d k : Nat) (ys : List Int) (z : Int) (r : Nat) (zs : List Int) (v : Bool), twoT t xs s ys = z → andL t xs s ys = zs → zs.length = r → twoOk t xs s ys = v → xs.length = m → ys.length = k → m ≤ 65 → k ≤ 65 → NilOk A m c → NilOk B k d → IntsIn u u.heap.size A xs → IntsIn u u.heap.size B ys → Calls Try.prog 25 #[.agg #[.int .i64 t, .slice A m c], .agg #[.int .i64 s, .slice B k d]] u (GotM u z r zs v)) := fun u t A c m xs s B d k ys z r zs v hz hy hr hv hm hk hl hl2 kA kB hi hj => by
    subst hz hy hv hm hk
    exact (specBoth_any t A c xs s B d ys u hi hj (by unfold maxLen; omega) (by unfold maxLen; omega)).mono fun _ _ k => k.m hr
  have HN : Hid (∀ (u : World) (t : Int) (A : Option Addr) (c m : Nat) (xs : List Int) (s : Int) (v : Bool), famInI t xs s = v → xs.length = m → m ≤ 65 → IntsIn u u.heap.size A xs → Calls Try.prog 20 #[.agg #[.int .i64 t, .slice A m c], .int .i64 s] u fun e w' => e = .returned (.bool v) ∧ Below u.heap.size u w') := fun u t A c m xs s v hv hm hl hi => by
    subst hv hm; exact inOk_any t A c xs s u hi (by omega)
  have HC : Hid (∀ (u : World) (t : Int) (A : Option Addr) (c m : Nat) (xs : List Int) (v : Int), famCountI t xs = v → xs.length = m → m ≤ 65 → IntsIn u u.heap.size A xs → Calls Try.prog 26 #[.agg #[.int .i64 t, .slice A m c]] u fun e w' => e = .returned (.int .i64 v) ∧ Below u.heap.size u w') := fun u t A c m xs v hv hm hl hi => by
    subst hv hm; exact countIn_any t A c xs u hi (by omega)
  have HJ : Hid (∀ (u : World) (t : Int) (A B : Option Addr) (c d m : Nat) (xs : List Int), xs.length = m → m ≤ 65 → IntsIn u u.heap.size A xs → IntsIn u u.heap.size B xs → Calls Try.prog 18 #[.agg #[.int .i64 t, .slice A m c], .agg #[.int .i64 t, .slice B m d]] u fun e w' => e = .returned (.bool true) ∧ Below u.heap.size u w') := fun u t A B c d m xs hm hl h1 h2 => sameFamily_self t A B c d m xs u h1 h2 hm (by omega)
  go_enter Try.func4, Try.ntmps4
  go_wp2_with fail
  refine (drawBothFamilies_any _ _ _ _ hb hl hc).mono ?_
  rintro e1 w1 ⟨t, A1, c1, xs, s, A2, c2, ys, rfl, own1, own2, ht, hx, hs, hy, BB1⟩
  obtain ⟨m, hm⟩ : ∃ m, xs.length = m := ⟨_, rfl⟩
  obtain ⟨k, hk⟩ : ∃ k, ys.length = k := ⟨_, rfl⟩
  rw [hm] at own1 hx ⊢
  rw [hk] at own2 hy ⊢
  have HM := Lib.hid hm
  have HK := Lib.hid hk
  clear hb hl hc
  go_wp2_with fail
  have X1 := FamRd.start (t := t) (m := m) (c := c1) 27 own1.ints
  have X2 := X1.alloc (.cells #[.int .i64 s, .slice A2 k c2] 27)
  have Y2 := FamRd.start (t := s) (m := k) (c := c2) 27 (own2.ints.alloc (Nat.le_refl _) (.cells #[.int .i64 t, .slice A1 m c1] 27) |>.more (by simp))
  have kA := own_nil own1
  have kB := own_nil own2
  have BB2 := (BB1.alloc BB1.size (.cells #[.int .i64 t, .slice A1 m c1] 27)).alloc (by have := BB1.size; simp; omega) (.cells #[.int .i64 s, .slice A2 k c2] 27)
  rw [World.size_alloc] at Y2
  obtain ⟨W, hW⟩ : ∃ W, W = (w1.alloc (.cells #[.int .i64 t, .slice A1 m c1] 27)).alloc (.cells #[.int .i64 s, .slice A2 k c2] 27) := ⟨_, rfl⟩
  rw [← hW] at X2 Y2 BB2 ⊢
  clear X1 own1 own2 BB1 hW
  generalize w1.heap.size = b at *
  cases hB : twoOk t xs s ys with
  | false =>
    have HB := Lib.hid hB
    have HV : Hid (twoT t xs s ys = 0) := by unfold Hid twoT; rw [hB]; rfl
    have HW : Hid (andL t xs s ys = []) := by unfold Hid andL; rw [hB]; rfl
    clear hB hm hk
    refine (HI.out _ _ _ _ _ _ _ _ _ _ _ 0 0 [] false HV.out HW.out rfl HB.out HM.out HK.out hx hy kA kB X2.ints Y2.ints).mono ?_
    rintro e2 w2 ⟨A3, c3, rfl, own3, hb2⟩
    have X3 := (X2.next hb2).alloc (.cells #[.int .i64 0, .slice A3 0 c3] 27)
    have Y3 := (Y2.next hb2).alloc (.cells #[.int .i64 0, .slice A3 0 c3] 27)
    have Z3 := FamRd.start (t := 0) (m := 0) (c := c3) 27 own3.ints
    have BB3 := (BB2.trans (hb2.mono BB2.size)).alloc (by have h1 := hb2.size; have h2 := BB2.size; omega) (.cells #[.int .i64 0, .slice A3 0 c3] 27)
    have p0 := (X2.next hb2).c0
    have p1 := (X2.next hb2).c1
    have pl := (X2.next hb2).lt
    have q0 := (Y2.next hb2).c0
    have q1 := (Y2.next hb2).c1
    have ql := (Y2.next hb2).lt
    obtain ⟨W2, hW2⟩ : ∃ W2, W2 = w2.alloc (.cells #[.int .i64 0, .slice A3 0 c3] 27) := ⟨_, rfl⟩
    clear own3
    go_wp2_with fail
    rw [← hW2] at X3 Y3 Z3 BB3 ⊢
    clear hW2 X2 Y2 BB2 hb2 p0 p1 pl q0 q1 ql
    generalize w2.heap.size = b2 at *
    refine (HS.out _ _ _ _ _ _ _ _ _ _ _ 0 0 [] false HV.out HW.out rfl HB.out HM.out HK.out hx hy kA kB X3.ints Y3.ints).mono ?_
    rintro e3 w3 ⟨A4, c4, rfl, own4, hb3⟩
    have Z4 := (Z3.next hb3).alloc (.cells #[.int .i64 0, .slice A4 0 c4] 27)
    have BB4 := (BB3.trans (hb3.mono BB3.size)).alloc (by have h1 := hb3.size; have h2 := BB3.size; omega) (.cells #[.int .i64 0, .slice A4 0 c4] 27)
    have p0 := (Z3.next hb3).c0
    have p1 := (Z3.next hb3).c1
    have pl := (Z3.next hb3).lt
    clear own4 HS HI
    go_wp2_with fail
    clear p0 p1 pl Z3 hb3 BB3
    have p0 := Z4.c0
    have p1 := Z4.c1
    have pl := Z4.lt
    refine (HJ.out _ 0 _ _ _ _ 0 [] rfl (by omega) IntsIn.nil IntsIn.nil).mono ?_
    rintro e4 w4 ⟨rfl, hb4⟩
    have Z5 := Z4.next hb4
    have BB5 := BB4.trans (hb4.mono BB4.size)
    clear p0 p1 pl Z4 hb4 BB4
    have p0 := Z5.c0
    have p1 := Z5.c1
    have pl := Z5.lt
    go_wp2_with fail
    refine (HJ.out _ 0 _ _ _ _ 0 [] rfl (by omega) IntsIn.nil IntsIn.nil).mono ?_
    rintro e5 w5 ⟨rfl, hb5⟩
    have BB6 := BB5.trans (hb5.mono BB5.size)
    clear p0 p1 pl Z5 hb5 BB5
    go_wp2_with fail
    refine (alive_any _).mono ?_
    rintro e7 w7 ⟨rfl, hb7⟩
    go_wp2_with fail
    go_returns
    exact ⟨by first | rfl | simp, BB6.trans (hb7.mono BB6.size)⟩
  | true =>
    obtain ⟨T, ns, ms, rfl, rfl, hT, rfl, rfl, hn, hms⟩ := twoOk_iff.1 hB
    have HB := Lib.hid hB
    have HV : Hid (∀ xs ys, twoOk (T : Nat) xs (T : Nat) ys = true → twoT (T : Nat) xs (T : Nat) ys = (T : Nat)) := fun xs ys h => by unfold twoT; rw [h]; rfl
    have HW := Lib.hid (andL_of hT hn hms)
    have HB2 := Lib.hid (two_of hT hms hn)
    have HW2 := Lib.hid ((andL_of hT hms hn).trans (by rw [famAnd_swap]))
    have hok := famAnd_ok T (by omega) ns ms
    obtain ⟨r, hr⟩ : ∃ r, (natI (famAnd T ns ms)).length = r := ⟨_, rfl⟩
    have hr64 : r ≤ 64 := by
      have h1 := hok.len
      have h2 := pow_64 hT
      rw [← hr, natI_length]; omega
    have HR := Lib.hid hr
    have HNA : Hid (∀ s : Nat, s < 2 ^ T → famInI (T : Nat) (natI ns) (s : Nat) = famB ns s) := fun s hs => inI_of hT hn hs
    have HNB : Hid (∀ s : Nat, s < 2 ^ T → famInI (T : Nat) (natI ms) (s : Nat) = famB ms s) := fun s hs => inI_of hT hms hs
    have HNC : Hid (∀ s : Nat, s < 2 ^ T → famInI (T : Nat) (natI (famAnd T ns ms)) (s : Nat) = (famB ns s && famB ms s)) := fun s hs => (inI_of hT hok hs).trans (famAnd_in (by omega) ns ms hs)
    have HCA := Lib.hid (countI_of hT hn)
    have HCB := Lib.hid (countI_of hT hms)
    have HCC := Lib.hid (countI_of hT hok)
    have hmore := famAnd_more (T := T) (by omega) ns ms
    have n1 := famN_le T ns
    have n2 := famN_le T ms
    have n3 := famN_le T (famAnd T ns ms)
    obtain ⟨P, hP, p1', p2', hp3, hp4⟩ := pow_named12 (show T ≤ 13 by omega)
    have hP64 : P ≤ 64 := by rw [← hP]; exact pow_64 hT
    have hmin : min T 64 = T := by omega
    rw [hP] at HNA HNB HNC hmore n1 n2 n3
    have HP := Lib.hid hP
    clear hB hm hk hok hr hn hms hP
    generalize famN T (famAnd T ns ms) = nC at *
    generalize famN T ns = nA at *
    generalize famN T ms = nB at *
    generalize natI (famAnd T ns ms) = zs at *
    generalize natI ns = xs at *
    generalize natI ms = ys at *
    generalize famB ns = fa at *
    generalize famB ms = fb at *
    refine (HI.out _ _ _ _ _ _ _ _ _ _ _ _ r zs true (HV.out _ _ HB.out) HW.out HR.out HB.out HM.out HK.out hx hy kA kB X2.ints Y2.ints).mono ?_
    rintro e2 w2 ⟨A3, c3, rfl, own3, hb2⟩
    have X3 := (X2.next hb2).alloc (.cells #[.int .i64 (T : Nat), .slice A3 r c3] 27)
    have Y3 := (Y2.next hb2).alloc (.cells #[.int .i64 (T : Nat), .slice A3 r c3] 27)
    have Z3 := FamRd.start (t := (T : Nat)) (m := r) (c := c3) 27 own3.ints
    have kC := own_nil own3
    have BB3 := (BB2.trans (hb2.mono BB2.size)).alloc (by have h1 := hb2.size; have h2 := BB2.size; omega) (.cells #[.int .i64 (T : Nat), .slice A3 r c3] 27)
    have p0 := (X2.next hb2).c0
    have p1 := (X2.next hb2).c1
    have pl := (X2.next hb2).lt
    have q0 := (Y2.next hb2).c0
    have q1 := (Y2.next hb2).c1
    have ql := (Y2.next hb2).lt
    obtain ⟨W2, hW2⟩ : ∃ W2, W2 = w2.alloc (.cells #[.int .i64 (T : Nat), .slice A3 r c3] 27) := ⟨_, rfl⟩
    clear own3
    go_wp2_with fail
    rw [← hW2] at X3 Y3 Z3 BB3 ⊢
    clear hW2 X2 Y2 BB2 hb2 p0 p1 pl q0 q1 ql
    generalize w2.heap.size = b2 at *
    refine (HS.out _ _ _ _ _ _ _ _ _ _ _ _ r zs true (HV.out _ _ HB.out) HW.out HR.out HB.out HM.out HK.out hx hy kA kB X3.ints Y3.ints).mono ?_
    rintro e3 w3 ⟨A4, c4, rfl, own4, hb3⟩
    have X4 := (X3.next hb3).alloc (.cells #[.int .i64 (T : Nat), .slice A4 r c4] 27)
    have Y4 := (Y3.next hb3).alloc (.cells #[.int .i64 (T : Nat), .slice A4 r c4] 27)
    have Z4 := (Z3.next hb3).alloc (.cells #[.int .i64 (T : Nat), .slice A4 r c4] 27)
    have V4 := own4.ints.alloc (Nat.le_refl _) (.cells #[.int .i64 (T : Nat), .slice A4 r c4] 27)
    have BB4 := (BB3.trans (hb3.mono BB3.size)).alloc (by have h1 := hb3.size; have h2 := BB3.size; omega) (.cells #[.int .i64 (T : Nat), .slice A4 r c4] 27)
    have p0 := (Z3.next hb3).c0
    have p1 := (Z3.next hb3).c1
    have pl := (Z3.next hb3).lt
    clear own4 HS
    go_wp2_with fail
    clear p0 p1 pl X3 Y3 Z3 hb3 BB3
    refine (HJ.out _ _ _ _ _ _ _ zs HR.out (by omega) Z4.ints (V4.more (by simp))).mono ?_
    rintro e4 w4 ⟨rfl, hb4⟩
    have X5 := X4.next hb4
    have Y5 := Y4.next hb4
    have Z5 := Z4.next hb4
    have BB5 := BB4.trans (hb4.mono BB4.size)
    clear X4 Y4 Z4 V4 hb4 BB4
    go_wp2_with fail
    go_loopw [9] (fun i wr => ∃ j : Nat, j ≤ P ∧ i = .int .i64 j ∧ FamRd wr b (T : Nat) A1 m c1 xs ∧ FamRd wr (b + 1) (T : Nat) A2 k c2 ys ∧ FamRd wr b2 (T : Nat) A3 r c3 zs ∧ Below w.heap.size w wr) (fun i _ => P - (intOf i).toNat)
    case atStart => exact ⟨0, by omega, rfl, X5, Y5, Z5, BB5⟩
    case round =>
      clear X5 Y5 Z5 BB5
      obtain ⟨j, hj, rfl, X, Y, Z, BB⟩ := hrel
      have p0 := X.c0
      have p1 := X.c1
      have pl := X.lt
      by_cases hlt : j < P
      · have hdec : decide ((j : Int) < (P : Int)) = true := decide_eq_true (by omega)
        go_wp2_with fail
        have hva := HNA.out j hlt
        have hvb := HNB.out j hlt
        have hvc := HNC.out j hlt
        refine wp_region_class (fun u => (FamRd u b (T : Nat) A1 m c1 xs ∧ FamRd u (b + 1) (T : Nat) A2 k c2 ys ∧ FamRd u b2 (T : Nat) A3 r c3 zs) ∧ Below w.heap.size w u) (by kernel_rfl) (by kernel_rfl) ⟨⟨X.drew, Y.drew, Z.drew⟩, BB.drew⟩ ?_
        clear X Y Z BB p0 p1 pl
        intro XX hXX f hf hex
        have k0 : ∀ x, (f x).cell? ⟨b, 0, none⟩ = some (.int .i64 (T : Nat)) := fun x => (hf x).1.1.c0
        have k1 : ∀ x, (f x).cell? ⟨b, 1, none⟩ = some (.slice A1 m c1) := fun x => (hf x).1.1.c1
        have k2 : ∀ x, (f x).cell? ⟨b + 1, 0, none⟩ = some (.int .i64 (T : Nat)) := fun x => (hf x).1.2.1.c0
        have k3 : ∀ x, (f x).cell? ⟨b + 1, 1, none⟩ = some (.slice A2 k c2) := fun x => (hf x).1.2.1.c1
        have k4 : ∀ x, (f x).cell? ⟨b2, 0, none⟩ = some (.int .i64 (T : Nat)) := fun x => (hf x).1.2.2.c0
        have k5 : ∀ x, (f x).cell? ⟨b2, 1, none⟩ = some (.slice A3 r c3) := fun x => (hf x).1.2.2.c1
        have HA : Hid (∀ x, Calls Try.prog 20 #[.agg #[.int .i64 (T : Nat), .slice A1 m c1], .int .i64 (j : Nat)] (f x) fun e w' => e = .returned (.bool (fa j)) ∧ Below (f x).heap.size (f x) w') := fun x => HN.out _ _ _ _ _ _ _ _ hva HM.out hx (hf x).1.1.ints
        have HE : Hid (∀ x, Calls Try.prog 20 #[.agg #[.int .i64 (T : Nat), .slice A2 k c2], .int .i64 (j : Nat)] (f x) fun e w' => e = .returned (.bool (fb j)) ∧ Below (f x).heap.size (f x) w') := fun x => HN.out _ _ _ _ _ _ _ _ hvb HK.out hy (hf x).1.2.1.ints
        have HG : Hid (∀ x, Calls Try.prog 20 #[.agg #[.int .i64 (T : Nat), .slice A3 r c3], .int .i64 (j : Nat)] (f x) fun e w' => e = .returned (.bool (fa j && fb j)) ∧ Below (f x).heap.size (f x) w') := fun x => HN.out _ _ _ _ _ _ _ _ hvc HR.out (by omega) (hf x).1.2.2.ints
        have HD : Hid (∀ x w', Below (f x).heap.size (f x) w' → ((FamRd w' b (T : Nat) A1 m c1 xs ∧ FamRd w' (b + 1) (T : Nat) A2 k c2 ys ∧ FamRd w' b2 (T : Nat) A3 r c3 zs) ∧ Below w.heap.size w w')) := fun x w' hb => ⟨⟨(hf x).1.1.next hb, (hf x).1.2.1.next hb, (hf x).1.2.2.next hb⟩, (hf x).2.trans (hb.mono (hf x).2.size)⟩
        clear hva hvb hvc
        cases hfa : fa j <;> cases hfb : fb j
        all_goals
          rw [hfa, hfb] at HG
          rw [hfa] at HA
          rw [hfb] at HE
          clear hfa hfb
          repeat (go_big_quiet_step (first | (go_at_call 20; first | (with_reducible exact class_of hex (HA.out _) (HD.out _)) | (with_reducible exact class_of hex (HE.out _) (HD.out _)) | (with_reducible exact class_of hex (HG.out _) (HD.out _)))))
          refine wpQuiet_nil ?_
          rintro _ ⟨x, rfl⟩
          have F := hf x
          clear HA HE HG HD k0 k1 k2 k3 k4 k5
          go_wp2_with fail
          go_roundw
          case rel => exact ⟨j + 1, by omega, by go_num, F.1.1, F.1.2.1, F.1.2.2, F.2⟩
          case measure => simp [intOf]; omega
      · obtain rfl : j = P := by omega
        have q0 := Y.c0
        have q1 := Y.c1
        have ql := Y.lt
        go_wp2_with fail
        clear p0 p1 pl q0 q1 ql
        refine (HI.out _ _ _ _ _ _ _ _ _ _ _ _ r zs true (HV.out _ _ HB2.out) HW2.out HR.out HB2.out HK.out HM.out hy hx kB kA Y.ints X.ints).mono ?_
        rintro e5 w5 ⟨A5, c5, rfl, own5, hb5⟩
        have X6 := (X.next hb5).alloc (.cells #[.int .i64 (T : Nat), .slice A5 r c5] 27)
        have Y6 := (Y.next hb5).alloc (.cells #[.int .i64 (T : Nat), .slice A5 r c5] 27)
        have Z6 := (Z.next hb5).alloc (.cells #[.int .i64 (T : Nat), .slice A5 r c5] 27)
        have V6 := FamRd.start (t := (T : Nat)) (m := r) (c := c5) 27 own5.ints
        have BB6 := (BB.trans (hb5.mono BB.size)).alloc (by have h1 := hb5.size; have h2 := BB.size; omega) (.cells #[.int .i64 (T : Nat), .slice A5 r c5] 27)
        obtain ⟨W5, hW5⟩ : ∃ W5, W5 = w5.alloc (.cells #[.int .i64 (T : Nat), .slice A5 r c5] 27) := ⟨_, rfl⟩
        clear own5
        go_wp2_with fail
        rw [← hW5] at X6 Y6 Z6 V6 BB6 ⊢
        clear hW5 X Y Z BB hb5
        generalize w5.heap.size = b5 at *
        refine wp_region_class (fun u => (FamRd u b (T : Nat) A1 m c1 xs ∧ FamRd u (b + 1) (T : Nat) A2 k c2 ys ∧ FamRd u b2 (T : Nat) A3 r c3 zs ∧ FamRd u b5 (T : Nat) A5 r c5 zs) ∧ Below w.heap.size w u) (by kernel_rfl) (by kernel_rfl) ⟨⟨X6.drew, Y6.drew, Z6.drew, V6.drew⟩, BB6.drew⟩ ?_
        clear X6 Y6 Z6 V6 BB6
        intro XX hXX f hf hex
        have k0 : ∀ x, (f x).cell? ⟨b, 0, none⟩ = some (.int .i64 (T : Nat)) := fun x => (hf x).1.1.c0
        have k1 : ∀ x, (f x).cell? ⟨b, 1, none⟩ = some (.slice A1 m c1) := fun x => (hf x).1.1.c1
        have k2 : ∀ x, (f x).cell? ⟨b + 1, 0, none⟩ = some (.int .i64 (T : Nat)) := fun x => (hf x).1.2.1.c0
        have k3 : ∀ x, (f x).cell? ⟨b + 1, 1, none⟩ = some (.slice A2 k c2) := fun x => (hf x).1.2.1.c1
        have k4 : ∀ x, (f x).cell? ⟨b2, 0, none⟩ = some (.int .i64 (T : Nat)) := fun x => (hf x).1.2.2.1.c0
        have k5 : ∀ x, (f x).cell? ⟨b2, 1, none⟩ = some (.slice A3 r c3) := fun x => (hf x).1.2.2.1.c1
        have k6 : ∀ x, (f x).cell? ⟨b5, 0, none⟩ = some (.int .i64 (T : Nat)) := fun x => (hf x).1.2.2.2.c0
        have k7 : ∀ x, (f x).cell? ⟨b5, 1, none⟩ = some (.slice A5 r c5) := fun x => (hf x).1.2.2.2.c1
        have HA : Hid (∀ x, Calls Try.prog 26 #[.agg #[.int .i64 (T : Nat), .slice A1 m c1]] (f x) fun e w' => e = .returned (.int .i64 (nA : Nat)) ∧ Below (f x).heap.size (f x) w') := fun x => HC.out _ _ _ _ _ _ _ HCA.out HM.out hx (hf x).1.1.ints
        have HE : Hid (∀ x, Calls Try.prog 26 #[.agg #[.int .i64 (T : Nat), .slice A2 k c2]] (f x) fun e w' => e = .returned (.int .i64 (nB : Nat)) ∧ Below (f x).heap.size (f x) w') := fun x => HC.out _ _ _ _ _ _ _ HCB.out HK.out hy (hf x).1.2.1.ints
        have HG : Hid (∀ x, Calls Try.prog 26 #[.agg #[.int .i64 (T : Nat), .slice A3 r c3]] (f x) fun e w' => e = .returned (.int .i64 (nC : Nat)) ∧ Below (f x).heap.size (f x) w') := fun x => HC.out _ _ _ _ _ _ _ HCC.out HR.out (by omega) (hf x).1.2.2.1.ints
        have HS2 : Hid (∀ x, Calls Try.prog 18 #[.agg #[.int .i64 (T : Nat), .slice A5 r c5], .agg #[.int .i64 (T : Nat), .slice A3 r c3]] (f x) fun e w' => e = .returned (.bool true) ∧ Below (f x).heap.size (f x) w') := fun x => HJ.out _ _ _ _ _ _ _ zs HR.out (by omega) (hf x).1.2.2.2.ints (hf x).1.2.2.1.ints
        have HD : Hid (∀ x w', Below (f x).heap.size (f x) w' → ((FamRd w' b (T : Nat) A1 m c1 xs ∧ FamRd w' (b + 1) (T : Nat) A2 k c2 ys ∧ FamRd w' b2 (T : Nat) A3 r c3 zs ∧ FamRd w' b5 (T : Nat) A5 r c5 zs) ∧ Below w.heap.size w w')) := fun x w' hb => ⟨⟨(hf x).1.1.next hb, (hf x).1.2.1.next hb, (hf x).1.2.2.1.next hb, (hf x).1.2.2.2.next hb⟩, (hf x).2.trans (hb.mono (hf x).2.size)⟩
        obtain ⟨wc1, wc2, wc3⟩ := count_cmp HP.out n1 n2 n3 hP64 hmore
        repeat (go_big_quiet_step (first | (go_at_call 26; first | (with_reducible exact class_of hex (HA.out _) (HD.out _)) | (with_reducible exact class_of hex (HE.out _) (HD.out _)) | (with_reducible exact class_of hex (HG.out _) (HD.out _))) | (go_at_call 18; with_reducible exact class_of hex (HS2.out _) (HD.out _))))
        refine wpQuiet_nil ?_
        rintro _ ⟨x, rfl⟩
        have F := hf x
        clear HA HE HG HD HS2 k0 k1 k2 k3 k4 k5 k6 k7
        go_wp2_with fail
        go_returns
        exact ⟨by first | rfl | (simp; done) | (simp; exact wc3), F.2⟩


namespace fnBothFamilies
open Go.ChangeShapes Go.WideShapes Go.ChangeAt Go.RowKit Go.Deep Go.Joins
set_option linter.unusedVariables false
set_option maxRecDepth 100000 in
theorem lifted (os : Os) (started : os.Started) (H : Type) (enc : TypeId × Value → H) :
    ReturnsInHanded {} Try.checked os 4 .any (Rows.fnBothFamiliesSpec.pre6 enc Try.prog Try.f4 Rows.fnBothFamiliesRow.domain false) (Rows.fnBothFamiliesSpec.post enc Try.prog Try.f4 false true false false) := by
  refine returnsInHanded_of_change (C := Try.checked) own started (by kernel_rfl) Try.func4
    (ChangeSpec.witness6 (enc := enc) (C := Try.checked) false ⟨#[], #[.slice none 0 0], []⟩ 8 (by kernel_rfl) (by kernel_rfl) (by kernel_rfl) (by kernel_rfl)) ?_
  intro W base args ds gs before hval0 hW hcnd _
  have hval : ∀ (j : Nat) t v, Try.f4.params[j]? = some t → args[j]? = some v → Value.okWide Try.prog W .any base t v := hval0
  have hW' := hW
  obtain ⟨p, q, hA0, hV, rfl, hfz, hnd⟩ := hW
  have hA : DataW.TrodAll enc Try.prog W 0 (fun _ => true) true Try.f4.params.toList args.toList ds p := hA0
  rw [Try.params4] at hA hval
  obtain ⟨v0, vs0, d0, ds0, p0, q0, hargs, rfl, rfl, h0, r0⟩ := trodAll_cons hA
  obtain ⟨rfl, rfl, rfl⟩ := trodAll_nil r0
  obtain rfl : args = #[v0] := by cases args; simp_all
  obtain ⟨rfl, rfl⟩ := trodVars_none hV
  have k0 := h0
  have lt0 : ∀ x ∈ p0, x.block < W.heap.size := by obtain ⟨m, hm⟩ := k0; exact DataW.trod_lt m _ _ _ hm
  obtain ⟨A0, c0, bs0, rfl, hb0, hl0⟩ := open_bytes (hval 0 22 v0 rfl rfl) h0
  clear hA0 hval0
  refine (bothFamilies_law A0 c0 bs0 W hb0 hl0).mono fun e W' ⟨he, bel⟩ => ?_
  subst he
  exact ⟨_, rfl, _, _, _, [], _, [], hW', trodAll_mk1 (shut_bool Try.underlying4 _), (trodAll_cons_mk (Below.trod laidOut (by kernel_rfl) (of_decide_eq_true (by kernel_rfl)) k0 bel lt0) trodAll_mk0), rfl, bel.frame _, fun h => by cases h⟩

theorem holds : Rows.FnBothFamiliesSaid :=
  OpenClaim.holds_of_wide 4 Try.f4 rfl rfl rfl rfl rfl rfl rfl ⟨rfl, rfl, rfl, rfl, rfl⟩ rfl rfl rfl rfl rfl (by kernel_rfl) Try.func4 (by kernel_rfl)
    (of_decide_eq_true (by kernel_rfl)) (by unfold Func.isWrapper; first | (rw [if_pos (by decide +kernel)]; kernel_rfl) | (rw [if_neg (by decide +kernel)]; exact ⟨rfl, rfl⟩))
    (fun os started H enc _ => lifted os started H enc)
end fnBothFamilies
end Go.Proofs.Ytmdmmebekicpkaa
