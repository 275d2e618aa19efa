/- The law FnTwoPathsApart holds of every code: two pairs of nodes help each other, or share. -/
import Derived.Test.YtmdmmebekicpkaaBytes
import Derived.Test.YtmdmmebekicpkaaPathFam
import Derived.Test.YtmdmmebekicpkaaImpl8h
import Derived.Test.YtmdmmebekicpkaaImpl8f
import Derived.Test.YtmdmmebekicpkaaFamR
import Derived.Test.YtmdmmebekicpkaaClass
namespace Go.Proofs.Ytmdmmebekicpkaa
open Go.RowKit
set_option maxRecDepth 100000

theorem pair_facts {n : Int} {es : List (Int × Int)} {a b : Int} (h : pfOk n es a b = true) {i j : Int} (hj : 1 ≤ j) (hji : j < i) (hi : i ≤ n) :
    ∃ (ys vs zs : List Int) (nB nC nD : Nat), pfT n es i j = (es.length : Nat) ∧ pfL n es i j = ys ∧ ys.length ≤ 64 ∧ pfOk n es i j = true ∧ twoOk (es.length : Nat) (natI (pathsN n es a b)) (es.length : Nat) ys = true ∧ andL (es.length : Nat) (natI (pathsN n es a b)) (es.length : Nat) ys = vs ∧ vs.length ≤ 64 ∧
      apL (es.length : Nat) (natI (pathsN n es a b)) (es.length : Nat) ys = zs ∧ zs.length ≤ 64 ∧ famCountI (es.length : Nat) ys = (nB : Nat) ∧ famCountI (es.length : Nat) vs = (nC : Nat) ∧ famCountI (es.length : Nat) zs = (nD : Nat) ∧
      nB ≤ 2 ^ es.length ∧ nC ≤ 2 ^ es.length ∧ nD ≤ 2 ^ es.length ∧ famN es.length (pathsN n es a b) * nB ≤ nC * 2 ^ es.length ∧ nD * 2 ^ es.length ≤ famN es.length (pathsN n es a b) * nB := by
  unfold pfOk at h
  rw [Bool.and_eq_true, decide_eq_true_eq] at h
  obtain ⟨hjo, h6⟩ := h
  have hnet := (joinOkB_iff.1 hjo).1
  have hjo2 : joinOkB n es i j = true := joinOkB_iff.2 ⟨hnet, ⟨by omega, hi⟩, ⟨hj, by omega⟩, by omega⟩
  have hok2 : pfOk n es i j = true := by unfold pfOk; rw [hjo2, decide_eq_true h6]; rfl
  have hn := path_ok hjo
  have hm := path_ok hjo2
  have hp := pow_64 h6
  have hA := famAnd_ok es.length (by omega) (pathsN n es a b) (pathsN n es i j)
  have hD := famAp_ok es.length (by omega) (pathsN n es a b) (pathsN n es i j)
  have l1 := hm.len
  have l2 := hA.len
  have l3 := hD.len
  exact ⟨natI (pathsN n es i j), natI (famAnd es.length (pathsN n es a b) (pathsN n es i j)), natI (famAp es.length (pathsN n es a b) (pathsN n es i j)), famN es.length (pathsN n es i j), famN es.length (famAnd es.length (pathsN n es a b) (pathsN n es i j)), famN es.length (famAp es.length (pathsN n es a b) (pathsN n es i j)),
    by unfold pfT; rw [if_pos hok2], by unfold pfL; rw [if_pos hok2], by rw [natI_length]; omega, hok2, two_of h6 hn hm, andL_of h6 hn hm, by rw [natI_length]; omega, apL_of h6 hn hm, by rw [natI_length]; omega, countI_of h6 hm, countI_of h6 hA, countI_of h6 hD, famN_le _ _, famN_le _ _, famN_le _ _, famAnd_more (by omega) _ _, famAp_less (by omega) _ _⟩
theorem prod_facts {l P a b c d : Nat} (hP : 2 ^ l = P) (h1 : a ≤ P) (h2 : b ≤ P) (h3 : c ≤ P) (h4 : d ≤ P) (h64 : P ≤ 64) (h5 : a * b ≤ c * P) (h6 : d * P ≤ a * b) :
    ∃ X Y Z : Nat, Y ≤ X ∧ Z ≤ Y ∧ IntKind.i64.wrap ((c : Int) * 2 ^ l) = (X : Int) ∧ IntKind.i64.wrap ((a : Int) * (b : Int)) = (Y : Int) ∧ IntKind.i64.wrap ((d : Int) * 2 ^ l) = (Z : Int) := by
  have e : (2 : Int) ^ l = (P : Int) := by rw [← hP, Int.natCast_pow]; rfl
  have b1 : c * P ≤ 64 * 64 := Nat.mul_le_mul (by omega) h64
  have b2 : a * b ≤ 64 * 64 := Nat.mul_le_mul (by omega) (by omega)
  have b3 : d * P ≤ 64 * 64 := Nat.mul_le_mul (by omega) h64
  refine ⟨c * P, a * b, d * P, h5, h6, ?_, ?_, ?_⟩
  · rw [e, ← Int.natCast_mul]; exact IntWalk.i64_in _ (by omega)
  · rw [← Int.natCast_mul]; exact IntWalk.i64_in _ (by omega)
  · rw [e, ← Int.natCast_mul]; exact IntWalk.i64_in _ (by omega)

set_option maxHeartbeats 8000000 in
theorem twoPathsApart_law (A : Option Addr) (cap l : Nat) (w : World) (hb : BytesIn w w.heap.size A l) (hc : l ≤ cap) :
    Calls Try.prog 12 #[.slice A l cap] w fun e w' => e = .returned (.bool true) ∧ Below w.heap.size w w' := by
  by_cases hbig : 1048576 < l
  · go_enter Try.func12, Try.ntmps12
    go_wp2
    go_returns
    exact ⟨rfl, Below.refl _ _⟩
  have hl : l ≤ 1048576 := by omega
  clear hbig
  have HO : Hid (∀ (u : World) (t : Int) (A : Option Addr) (c m : Nat) (xs : List Int) (s : Int) (B : Option Addr) (d k : Nat) (ys : List Int) (z : Int) (r : Nat) (zs : List Int) (v : Bool), twoT t xs s ys = z → andL t xs s ys = zs → zs.length = r → twoOk t xs s ys = v → xs.length = m → ys.length = k → m ≤ 65 → k ≤ 65 → IntsIn u u.heap.size A xs → IntsIn u u.heap.size B ys → Calls Try.prog 24 #[.agg #[.int .i64 t, .slice A m c], .agg #[.int .i64 s, .slice B k d]] u (GotM u z r zs v)) := fun u t A c m xs s B d k ys z r zs v hz hy hr hv hm hk hl hl2 hi hj => by
    subst hz hy hv hm hk
    exact (both_any t A c xs s B d ys u hi hj (by omega) (by omega)).mono fun _ _ k => k.m hr
  have HI : Hid (∀ (u : World) (t : Int) (A : Option Addr) (c m : Nat) (xs : List Int) (s : Int) (B : Option Addr) (d k : Nat) (ys : List Int) (z : Int) (r : Nat) (zs : List Int) (v : Bool), twoT t xs s ys = z → apL t xs s ys = zs → zs.length = r → twoOk t xs s ys = v → xs.length = m → ys.length = k → m ≤ 65 → k ≤ 65 → IntsIn u u.heap.size A xs → IntsIn u u.heap.size B ys → Calls Try.prog 32 #[.agg #[.int .i64 t, .slice A m c], .agg #[.int .i64 s, .slice B k d]] u (GotM u z r zs v)) := fun u t A c m xs s B d k ys z r zs v hz hy hr hv hm hk hl hl2 hi hj => by
    subst hz hy hv hm hk
    exact (apart2_any t A c xs s B d ys u hi hj (by omega) (by omega)).mono fun _ _ k => k.m hr
  have HC : Hid (∀ (u : World) (t : Int) (A : Option Addr) (c m : Nat) (xs : List Int) (v : Int), famCountI t xs = v → xs.length = m → m ≤ 65 → IntsIn u u.heap.size A xs → Calls Try.prog 26 #[.agg #[.int .i64 t, .slice A m c]] u fun e w' => e = .returned (.int .i64 v) ∧ Below u.heap.size u w') := fun u t A c m xs v hv hm hl hi => by
    subst hv hm; exact countIn_any t A c xs u hi (by omega)
  go_enter Try.func12, Try.ntmps12
  go_wp2_with fail
  refine (drawPathFamily_any _ _ _ _ hb hl hc).mono ?_
  rintro e1 w1 ⟨n, A1, c, es, a, b, rfl, hes, n1, n7, hle, hb1⟩
  have L1 := ArgNet.start (cap := c) (n := n) 53 hes
  have HB := Lib.hid hb1
  have s1 := hb1.size
  clear hb1 hb hl hc hes
  have HP : Hid (∀ (a b : Int) (z : Int) (r : Nat) (ys : List Int) (v : Bool), pfT n es a b = z → pfL n es a b = ys → ys.length = r → pfOk n es a b = v → ∀ u, ArgNet w1 u n A1 c es → Calls Try.prog 42 #[.agg #[.int .i64 n, .slice A1 es.length c], .int .i64 a, .int .i64 b] u (GotM u z r ys v)) := fun a b z r ys v hz hy hr hv u h => by
    subst hz hy hv
    exact (pathFamily_any n a b A1 c es u h.edges (by omega)).mono fun _ _ k => k.m hr
  obtain ⟨_, _, c0, c1, s0⟩ := id L1
  cases hok : pfOk n es a b with
  | false =>
    have hw := pf_wrong hok
    have HK := Lib.hid hok
    have HT := Lib.hid hw.1
    have HL := Lib.hid hw.2
    clear hok hw
    go_wp2_with fail
    refine (HP.out _ _ 0 0 [] false HT.out HL.out rfl HK.out _ L1).mono ?_
    rintro e2 w2 ⟨A2, c2, rfl, own2, hb2⟩
    have L2 := L1.on _ hb2
    have BB := HB.out.trans ((L2.below.alloc (by have := L2.lt; omega) (.cells #[.int .i64 0, .slice A2 0 c2] 27)).mono s1)
    go_wp2_with fail
    refine (alive_any _).mono ?_
    rintro e3 w3 ⟨rfl, hb3⟩
    go_wp2_with fail
    go_returns
    exact ⟨by first | rfl | simp, BB.trans (hb3.mono BB.size)⟩
  | true =>
    have HK := Lib.hid hok
    have h6 : es.length ≤ 6 := by unfold pfOk at hok; rw [Bool.and_eq_true, decide_eq_true_eq] at hok; exact hok.2
    have hjo : joinOkB n es a b = true := by unfold pfOk at hok; rw [Bool.and_eq_true] at hok; exact hok.1
    have hn := path_ok hjo
    have HT : Hid (pfT n es a b = (es.length : Nat)) := by unfold Hid pfT; rw [if_pos hok]
    have HL : Hid (pfL n es a b = natI (pathsN n es a b)) := by unfold Hid pfL; rw [if_pos hok]
    have HCA := Lib.hid (countI_of h6 hn)
    have HQ := Lib.hid (fun (i j : Int) (hj : 1 ≤ j) (hji : j < i) (hi : i ≤ n) => pair_facts hok hj hji hi)
    obtain ⟨r, hr⟩ : ∃ r, (natI (pathsN n es a b)).length = r := ⟨_, rfl⟩
    have hr64 : r ≤ 64 := by
      have h1 := hn.len
      have h2 := pow_64 h6
      rw [← hr, natI_length]; omega
    have HR := Lib.hid hr
    have nA1 := famN_le es.length (pathsN n es a b)
    have hlmin : min es.length 64 = es.length := by omega
    obtain ⟨P, hP, p1, p2, hp3, hp4⟩ := pow_named12 (show es.length ≤ 13 by omega)
    have hP64 : P ≤ 64 := by rw [← hP]; exact pow_64 h6
    rw [hP] at HQ nA1
    have HPP := Lib.hid hP
    clear hok hjo hn hr hP
    generalize famN es.length (pathsN n es a b) = nA at *
    generalize natI (pathsN n es a b) = xs at *
    go_wp2_with fail
    refine (HP.out _ _ _ r xs true HT.out HL.out HR.out HK.out _ L1).mono ?_
    rintro e2 w2 ⟨A2, c2, rfl, own2, hb2⟩
    have L2 := L1.on _ hb2
    have hbx := (Below.refl w2.heap.size w2).alloc (Nat.le_refl _) (.cells #[.int .i64 (es.length : Nat), .slice A2 r c2] 27)
    have L3 := L2.on _ hbx
    have X3 := FamRd.start (t := (es.length : Nat)) (m := r) (c := c2) 27 own2.ints
    obtain ⟨W, hW⟩ : ∃ W, W = w2.alloc (.cells #[.int .i64 (es.length : Nat), .slice A2 r c2] 27) := ⟨_, rfl⟩
    clear own2 c0 c1 s0 L1 L2 hb2 HT HL HK
    go_wp2_with fail
    rw [← hW] at L3 X3 ⊢
    clear hW hbx
    generalize w2.heap.size = bf at *
    obtain ⟨N, rfl⟩ : ∃ N : Nat, n = N := ⟨n.toNat, by omega⟩
    go_loopw [8] (fun i wr => ∃ i0 : Nat, 1 ≤ i0 ∧ i0 ≤ N + 1 ∧ i = .int .i64 (i0 : Nat) ∧ ArgNet w1 wr N A1 c es ∧ FamRd wr bf (es.length : Nat) A2 r c2 xs) (fun i _ => N + 1 - (intOf i).toNat)
    case atStart => exact ⟨1, by omega, by omega, rfl, L3, X3⟩
    case round =>
      clear L3 X3
      obtain ⟨i0, hi1, hi2, rfl, L, X⟩ := hrel
      obtain ⟨_, _, c0, c1, s0⟩ := id L
      by_cases hiN : i0 ≤ N
      · have hiNi : (i0 : Int) ≤ (N : Int) := by omega
        go_wp2_with fail
        clear c0 c1 s0
        go_loopw [9] (fun i wr => ∃ j0 : Nat, 1 ≤ j0 ∧ j0 ≤ i0 ∧ i = .int .i64 (j0 : Nat) ∧ ArgNet w1 wr N A1 c es ∧ FamRd wr bf (es.length : Nat) A2 r c2 xs) (fun i _ => i0 - (intOf i).toNat)
        case atStart => exact ⟨1, by omega, by omega, rfl, L, X⟩
        case round =>
          clear L X
          obtain ⟨j0, hj1, hj2, rfl, L, X⟩ := hrel
          obtain ⟨_, _, c0, c1, s0⟩ := id L
          by_cases hji : j0 < i0
          · have hjii : (j0 : Int) < (i0 : Int) := by omega
            obtain ⟨ys, vs, zs, nB, nC, nD, q1, q2, q3, q4, q5, q6, q7, q8, q9, q10, q11, q12, q13, q14, q15, q16, q17⟩ := HQ.out (i0 : Int) (j0 : Int) (by omega) (by omega) (by omega)
            obtain ⟨k, hk⟩ : ∃ k, ys.length = k := ⟨_, rfl⟩
            obtain ⟨rv, hrv⟩ : ∃ k, vs.length = k := ⟨_, rfl⟩
            obtain ⟨rz, hrz⟩ : ∃ k, zs.length = k := ⟨_, rfl⟩
            rw [hk] at q3
            rw [hrv] at q7
            rw [hrz] at q9
            have qt : twoT (es.length : Nat) xs (es.length : Nat) ys = (es.length : Nat) := by unfold twoT; rw [q5]; rfl
            obtain ⟨X1, Y1, Z1, hYX, hZY, wc1, wc2, wc3⟩ := prod_facts HPP.out nA1 q13 q14 q15 hP64 q16 q17
            have HG := Lib.hid (HP.out (i0 : Int) (j0 : Int) _ k ys true q1 q2 hk q4)
            have HBo := Lib.hid (fun u A c m2 B d k2 => HO.out u (es.length : Nat) A c m2 xs (es.length : Nat) B d k2 ys _ rv vs true qt q6 hrv q5)
            have HAp := Lib.hid (fun u A c m2 B d k2 => HI.out u (es.length : Nat) A c m2 xs (es.length : Nat) B d k2 ys _ rz zs true qt q8 hrz q5)
            have HKK := Lib.hid hk
            have HRV := Lib.hid hrv
            have HRZ := Lib.hid hrz
            have HCB := Lib.hid q10
            have HCV := Lib.hid q11
            have HCZ := Lib.hid q12
            clear q1 q2 q4 q5 q6 q8 q10 q11 q12 q13 q14 q15 q16 q17 qt hk hrv hrz
            have hd1 : decide ((X1 : Int) < (Y1 : Int)) = false := decide_eq_false (by omega)
            have hn1 : ¬ ((X1 : Int) < (Y1 : Int)) := by omega
            have hd2 : decide ((Y1 : Int) < (Z1 : Int)) = false := decide_eq_false (by omega)
            have hn2 : ¬ ((Y1 : Int) < (Z1 : Int)) := by omega
            have hm1 : ¬ X1 < Y1 := by omega
            have hm2 : ¬ Y1 < Z1 := by omega
            go_wp2_with fail
            refine (HG.out _ L).mono ?_
            rintro e5 w5 ⟨A5, c5, rfl, own5, hb5⟩
            have X5 := (X.next hb5).alloc (.cells #[.int .i64 (es.length : Nat), .slice A5 k c5] 27)
            have Y5 := FamRd.start (t := (es.length : Nat)) (m := k) (c := c5) 27 own5.ints
            have L5 := (L.on _ hb5).on _ ((Below.refl _ _).alloc (Nat.le_refl _) (.cells #[.int .i64 (es.length : Nat), .slice A5 k c5] 27))
            have x0 := (X.next hb5).c0
            have x1 := (X.next hb5).c1
            have xl := (X.next hb5).lt
            obtain ⟨W5, hW5⟩ : ∃ W, W = w5.alloc (.cells #[.int .i64 (es.length : Nat), .slice A5 k c5] 27) := ⟨_, rfl⟩
            clear own5 c0 c1 s0
            go_wp2_with fail
            rw [← hW5] at X5 Y5 L5 ⊢
            clear hW5 L X hb5 x0 x1 xl
            generalize w5.heap.size = b5 at *
            refine (HBo.out _ _ _ _ _ _ _ HR.out HKK.out (by omega) (by omega) X5.ints Y5.ints).mono ?_
            rintro e6 w6 ⟨A6, c6, rfl, own6, hb6⟩
            have X6 := (X5.next hb6).alloc (.cells #[.int .i64 (es.length : Nat), .slice A6 rv c6] 27)
            have Y6 := (Y5.next hb6).alloc (.cells #[.int .i64 (es.length : Nat), .slice A6 rv c6] 27)
            have V6 := FamRd.start (t := (es.length : Nat)) (m := rv) (c := c6) 27 own6.ints
            have L6 := (L5.on _ hb6).on _ ((Below.refl _ _).alloc (Nat.le_refl _) (.cells #[.int .i64 (es.length : Nat), .slice A6 rv c6] 27))
            have x0 := (X5.next hb6).c0
            have x1 := (X5.next hb6).c1
            have xl := (X5.next hb6).lt
            have y0 := (Y5.next hb6).c0
            have y1 := (Y5.next hb6).c1
            have yl := (Y5.next hb6).lt
            obtain ⟨W6, hW6⟩ : ∃ W, W = w6.alloc (.cells #[.int .i64 (es.length : Nat), .slice A6 rv c6] 27) := ⟨_, rfl⟩
            clear own6
            go_wp2_with fail
            rw [← hW6] at X6 Y6 V6 L6 ⊢
            clear hW6 L5 X5 Y5 hb6 x0 x1 xl y0 y1 yl
            generalize w6.heap.size = b6 at *
            refine (HAp.out _ _ _ _ _ _ _ HR.out HKK.out (by omega) (by omega) X6.ints Y6.ints).mono ?_
            rintro e7 w7 ⟨A7, c7, rfl, own7, hb7⟩
            have X7 := (X6.next hb7).alloc (.cells #[.int .i64 (es.length : Nat), .slice A7 rz c7] 27)
            have Y7 := (Y6.next hb7).alloc (.cells #[.int .i64 (es.length : Nat), .slice A7 rz c7] 27)
            have V7 := (V6.next hb7).alloc (.cells #[.int .i64 (es.length : Nat), .slice A7 rz c7] 27)
            have Z7 := FamRd.start (t := (es.length : Nat)) (m := rz) (c := c7) 27 own7.ints
            have L7 := (L6.on _ hb7).on _ ((Below.refl _ _).alloc (Nat.le_refl _) (.cells #[.int .i64 (es.length : Nat), .slice A7 rz c7] 27))
            obtain ⟨W7, hW7⟩ : ∃ W, W = w7.alloc (.cells #[.int .i64 (es.length : Nat), .slice A7 rz c7] 27) := ⟨_, rfl⟩
            clear own7
            go_wp2_with fail
            rw [← hW7] at X7 Y7 V7 Z7 L7 ⊢
            clear hW7 L6 X6 Y6 V6 hb7
            generalize w7.heap.size = b7 at *
            refine wp_region_class (fun u => FamRd u bf (es.length : Nat) A2 r c2 xs ∧ FamRd u b5 (es.length : Nat) A5 k c5 ys ∧ FamRd u b6 (es.length : Nat) A6 rv c6 vs ∧ FamRd u b7 (es.length : Nat) A7 rz c7 zs ∧ ArgNet w1 u N A1 c es) (by kernel_rfl) (by kernel_rfl) ⟨X7.drew, Y7.drew, V7.drew, Z7.drew, L7.drew⟩ ?_
            clear X7 Y7 V7 Z7 L7
            intro XX hXX f hf hex
            have k0 : ∀ x, (f x).cell? ⟨bf, 0, none⟩ = some (.int .i64 (es.length : Nat)) := fun x => (hf x).1.c0
            have k1 : ∀ x, (f x).cell? ⟨bf, 1, none⟩ = some (.slice A2 r c2) := fun x => (hf x).1.c1
            have k2 : ∀ x, (f x).cell? ⟨b5, 0, none⟩ = some (.int .i64 (es.length : Nat)) := fun x => (hf x).2.1.c0
            have k3 : ∀ x, (f x).cell? ⟨b5, 1, none⟩ = some (.slice A5 k c5) := fun x => (hf x).2.1.c1
            have GA : Hid (∀ x, Calls Try.prog 26 #[.agg #[.int .i64 (es.length : Nat), .slice A2 r c2]] (f x) fun e w' => e = .returned (.int .i64 (nA : Nat)) ∧ Below (f x).heap.size (f x) w') := fun x => HC.out _ _ _ _ _ _ _ HCA.out HR.out (by omega) (hf x).1.ints
            have GB : Hid (∀ x, Calls Try.prog 26 #[.agg #[.int .i64 (es.length : Nat), .slice A5 k c5]] (f x) fun e w' => e = .returned (.int .i64 (nB : Nat)) ∧ Below (f x).heap.size (f x) w') := fun x => HC.out _ _ _ _ _ _ _ HCB.out HKK.out (by omega) (hf x).2.1.ints
            have HD : Hid (∀ x w', Below (f x).heap.size (f x) w' → (FamRd w' bf (es.length : Nat) A2 r c2 xs ∧ FamRd w' b5 (es.length : Nat) A5 k c5 ys ∧ FamRd w' b6 (es.length : Nat) A6 rv c6 vs ∧ FamRd w' b7 (es.length : Nat) A7 rz c7 zs ∧ ArgNet w1 w' N A1 c es)) := fun x w' hb => ⟨(hf x).1.next hb, (hf x).2.1.next hb, (hf x).2.2.1.next hb, (hf x).2.2.2.1.next hb, (hf x).2.2.2.2.on _ hb⟩
            repeat (go_big_quiet_step (first | (go_at_call 26; first | (with_reducible exact class_of hex (GA.out _) (HD.out _)) | (with_reducible exact class_of hex (GB.out _) (HD.out _)))))
            refine wpQuiet_nil ?_
            rintro _ ⟨x, rfl⟩
            obtain ⟨X7, Y7, V7, Z7, L7⟩ := hf x
            generalize f x = W8 at *
            clear GA GB HD k0 k1 k2 k3 hf hex
            go_wp2_with fail
            refine wp_region_class (fun u => FamRd u bf (es.length : Nat) A2 r c2 xs ∧ FamRd u b6 (es.length : Nat) A6 rv c6 vs ∧ FamRd u b7 (es.length : Nat) A7 rz c7 zs ∧ ArgNet w1 u N A1 c es) (by kernel_rfl) (by kernel_rfl) ⟨X7.drew, V7.drew, Z7.drew, L7.drew⟩ ?_
            clear X7 Y7 V7 Z7 L7
            intro XX hXX f hf hex
            have k0 : ∀ x, (f x).cell? ⟨b6, 0, none⟩ = some (.int .i64 (es.length : Nat)) := fun x => (hf x).2.1.c0
            have k1 : ∀ x, (f x).cell? ⟨b6, 1, none⟩ = some (.slice A6 rv c6) := fun x => (hf x).2.1.c1
            have k2 : ∀ x, (f x).cell? ⟨b7, 0, none⟩ = some (.int .i64 (es.length : Nat)) := fun x => (hf x).2.2.1.c0
            have k3 : ∀ x, (f x).cell? ⟨b7, 1, none⟩ = some (.slice A7 rz c7) := fun x => (hf x).2.2.1.c1
            have k4 : ∀ x, (f x).cell? ⟨w1.heap.size, 0, none⟩ = some (.int .i64 (N : Nat)) := fun x => (hf x).2.2.2.c0
            have k5 : ∀ x, (f x).cell? ⟨w1.heap.size, 1, none⟩ = some (.slice A1 es.length c) := fun x => (hf x).2.2.2.c1
            have GA : Hid (∀ x, Calls Try.prog 26 #[.agg #[.int .i64 (es.length : Nat), .slice A6 rv c6]] (f x) fun e w' => e = .returned (.int .i64 (nC : Nat)) ∧ Below (f x).heap.size (f x) w') := fun x => HC.out _ _ _ _ _ _ _ HCV.out HRV.out (by omega) (hf x).2.1.ints
            have GB : Hid (∀ x, Calls Try.prog 26 #[.agg #[.int .i64 (es.length : Nat), .slice A7 rz c7]] (f x) fun e w' => e = .returned (.int .i64 (nD : Nat)) ∧ Below (f x).heap.size (f x) w') := fun x => HC.out _ _ _ _ _ _ _ HCZ.out HRZ.out (by omega) (hf x).2.2.1.ints
            have HD : Hid (∀ x w', Below (f x).heap.size (f x) w' → (FamRd w' bf (es.length : Nat) A2 r c2 xs ∧ FamRd w' b6 (es.length : Nat) A6 rv c6 vs ∧ FamRd w' b7 (es.length : Nat) A7 rz c7 zs ∧ ArgNet w1 w' N A1 c es)) := fun x w' hb => ⟨(hf x).1.next hb, (hf x).2.1.next hb, (hf x).2.2.1.next hb, (hf x).2.2.2.on _ hb⟩
            repeat (go_big_quiet_step (first | (go_at_call 26; first | (with_reducible exact class_of hex (GA.out _) (HD.out _)) | (with_reducible exact class_of hex (GB.out _) (HD.out _)))))
            refine wpQuiet_nil ?_
            rintro _ ⟨x, rfl⟩
            obtain ⟨X9, V9, Z9, L9⟩ := hf x
            generalize f x = W9 at *
            clear GA GB HD k0 k1 k2 k3 k4 k5 hf hex
            go_wp2_with fail
            go_roundw
            case rel => first
              | exact ⟨j0 + 1, by omega, by omega, by go_num, L9, X9⟩
              | ((repeat apply Exists.intro); refine ⟨⟨j0 + 1, by omega, by omega, ?_, L9, X9⟩, rfl⟩; (· go_num))
            case measure => simp [intOf]; omega
          · obtain rfl : j0 = i0 := by omega
            go_wp2_with fail
            go_roundw
            case rel => first
              | exact ⟨j0 + 1, by omega, by omega, by go_num, L, X⟩
              | ((repeat apply Exists.intro); refine ⟨⟨j0 + 1, by omega, by omega, ?_, L, X⟩, rfl⟩; (· go_num))
            case measure => simp [intOf]; omega
      · have hiNi : ¬ ((i0 : Int) ≤ (N : Int)) := by omega
        go_wp2_with fail
        go_returns
        exact ⟨by first | rfl | simp, HB.out.trans (L.below.mono s1)⟩

namespace fnTwoPathsApart
open Go.ChangeShapes Go.WideShapes Go.ChangeAt Go.RowKit Go.Deep Go.Joins
set_option linter.unusedVariables false
set_option maxRecDepth 100000 in
theorem lifted (os : Os) (started : os.Started) (H : Type) (enc : TypeId × Value → H) :
    ReturnsInHanded {} Try.checked os 12 .any (Rows.fnTwoPathsApartSpec.pre6 enc Try.prog Try.f12 Rows.fnTwoPathsApartRow.domain false) (Rows.fnTwoPathsApartSpec.post enc Try.prog Try.f12 false true false false) := by
  refine returnsInHanded_of_change (C := Try.checked) own started (by kernel_rfl) Try.func12
    (ChangeSpec.witness6 (enc := enc) (C := Try.checked) false ⟨#[], #[.slice none 0 0], []⟩ 8 (by kernel_rfl) (by kernel_rfl) (by kernel_rfl) (by kernel_rfl)) ?_
  intro W base args ds gs before hval0 hW hcnd _
  have hval : ∀ (j : Nat) t v, Try.f12.params[j]? = some t → args[j]? = some v → Value.okWide Try.prog W .any base t v := hval0
  have hW' := hW
  obtain ⟨p, q, hA0, hV, rfl, hfz, hnd⟩ := hW
  have hA : DataW.TrodAll enc Try.prog W 0 (fun _ => true) true Try.f12.params.toList args.toList ds p := hA0
  rw [Try.params12] at hA hval
  obtain ⟨v0, vs0, d0, ds0, p0, q0, hargs, rfl, rfl, h0, r0⟩ := trodAll_cons hA
  obtain ⟨rfl, rfl, rfl⟩ := trodAll_nil r0
  obtain rfl : args = #[v0] := by cases args; simp_all
  obtain ⟨rfl, rfl⟩ := trodVars_none hV
  have k0 := h0
  have lt0 : ∀ x ∈ p0, x.block < W.heap.size := by obtain ⟨m, hm⟩ := k0; exact DataW.trod_lt m _ _ _ hm
  obtain ⟨A0, c0, bs0, rfl, hb0, hl0⟩ := open_bytes (hval 0 22 v0 rfl rfl) h0
  clear hA0 hval0
  refine (twoPathsApart_law A0 c0 bs0 W hb0 hl0).mono fun e W' ⟨he, bel⟩ => ?_
  subst he
  exact ⟨_, rfl, _, _, _, [], _, [], hW', trodAll_mk1 (shut_bool Try.underlying4 _), (trodAll_cons_mk (Below.trod laidOut (by kernel_rfl) (of_decide_eq_true (by kernel_rfl)) k0 bel lt0) trodAll_mk0), rfl, bel.frame _, fun h => by cases h⟩

theorem holds : Rows.FnTwoPathsApartSaid :=
  OpenClaim.holds_of_wide 12 Try.f12 rfl rfl rfl rfl rfl rfl rfl ⟨rfl, rfl, rfl, rfl, rfl⟩ rfl rfl rfl rfl rfl (by kernel_rfl) Try.func12 (by kernel_rfl)
    (of_decide_eq_true (by kernel_rfl)) (by unfold Func.isWrapper; first | (rw [if_pos (by decide +kernel)]; kernel_rfl) | (rw [if_neg (by decide +kernel)]; exact ⟨rfl, rfl⟩))
    (fun os started H enc _ => lifted os started H enc)
end fnTwoPathsApart
end Go.Proofs.Ytmdmmebekicpkaa
