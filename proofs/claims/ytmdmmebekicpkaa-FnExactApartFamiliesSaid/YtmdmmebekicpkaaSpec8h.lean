/- Families of the reference: apart. -/
import Derived.Test.YtmdmmebekicpkaaSpec8d
import Derived.Test.YtmdmmebekicpkaaVal8
namespace Go.Proofs.Ytmdmmebekicpkaa
open Go.RowKit
set_option maxRecDepth 100000

set_option maxHeartbeats 8000000 in
theorem specApart_any (t : Int) (A : Option Addr) (c : Nat) (xs : List Int) (s : Int) (B : Option Addr) (d : Nat) (ys : List Int) (w : World) (hx : IntsIn w w.heap.size A xs) (hy : IntsIn w w.heap.size B ys) (hl : xs.length ≤ maxLen) (hl2 : ys.length ≤ maxLen) :
    Calls Try.prog 33 #[.agg #[.int .i64 t, .slice A xs.length c], .agg #[.int .i64 s, .slice B ys.length d]] w (GotFam w (twoT t xs s ys) (apL t xs s ys) (twoOk t xs s ys)) := by
  have D0 := TwoAt.start w t A c xs s B d ys 27 hx hy
  unfold twoT apL
  cases hF : famOkB t xs with
  | false =>
    have HF := Lib.hid hF
    have h2 : twoOk t xs s ys = false := by simp [twoOk, hF]
    rw [h2, if_neg (by simp), if_neg (by simp)]
    clear hF h2
    obtain ⟨⟨f0, f1, -, fb, -, -⟩, ⟨g0, g1, -, -, -, -⟩, q0, q1, r0, r1, lt⟩ := id D0
    clear hx hy
    go_enter Try.func33, Try.ntmps33
    go_wp2_with fail
    refine (specFamilyOk_any _ _ _ _ _ D0.f.ints hl).mono ?_
    rintro e1 w1 ⟨rfl, hb1⟩
    rw [HF.out]
    have D1 := D0.next hb1
    clear f0 f1 fb g0 g1 q0 q1 r0 r1 lt D0 hb1
    obtain ⟨⟨f0, f1, -, fb, -, -⟩, ⟨g0, g1, -, -, -, -⟩, q0, q1, r0, r1, lt⟩ := id D1
    go_wp2_with fail
    refine bodyPost_ret (v := .tuple #[.agg #[.int .i64 0, .slice none 0 0], .bool false]) (by simp [results, Try.results33, go_sem, *]) rfl ?_
    exact ⟨none, 0, rfl, OwnI.nil _ _, (fb.setCell (p := ⟨w.heap.size + 2, 0, none⟩) (by simp) _).setCell (p := ⟨w.heap.size + 2, 1, none⟩) (by simp) _⟩
  | true =>
    have HF := Lib.hid hF
    cases hG : famOkB s ys with
    | false =>
      have HG := Lib.hid hG
      have h2 : twoOk t xs s ys = false := by simp [twoOk, hG]
      rw [h2, if_neg (by simp), if_neg (by simp)]
      clear hF hG h2
      obtain ⟨⟨f0, f1, -, fb, -, -⟩, ⟨g0, g1, -, -, -, -⟩, q0, q1, r0, r1, lt⟩ := id D0
      clear hx hy
      go_enter Try.func33, Try.ntmps33
      go_wp2_with fail
      refine (specFamilyOk_any _ _ _ _ _ D0.f.ints hl).mono ?_
      rintro e1 w1 ⟨rfl, hb1⟩
      rw [HF.out]
      have D1 := D0.next hb1
      clear f0 f1 fb g0 g1 q0 q1 r0 r1 lt D0 hb1
      obtain ⟨⟨f0, f1, -, fb, -, -⟩, ⟨g0, g1, -, -, -, -⟩, q0, q1, r0, r1, lt⟩ := id D1
      go_wp2_with fail
      refine (specFamilyOk_any _ _ _ _ _ D1.g.ints hl2).mono ?_
      rintro e2 w2 ⟨rfl, hb2⟩
      rw [HG.out]
      have D2 := D1.next hb2
      clear f0 f1 fb g0 g1 q0 q1 r0 r1 lt D1 hb2
      obtain ⟨⟨f0, f1, -, fb, -, -⟩, ⟨g0, g1, -, -, -, -⟩, q0, q1, r0, r1, lt⟩ := id D2
      go_wp2_with fail
      refine bodyPost_ret (v := .tuple #[.agg #[.int .i64 0, .slice none 0 0], .bool false]) (by simp [results, Try.results33, go_sem, *]) rfl ?_
      exact ⟨none, 0, rfl, OwnI.nil _ _, (fb.setCell (p := ⟨w.heap.size + 2, 0, none⟩) (by simp) _).setCell (p := ⟨w.heap.size + 2, 1, none⟩) (by simp) _⟩
    | true =>
      have HG := Lib.hid hG
      by_cases hts : t = s
      · obtain ⟨T, ns, ms, rfl, rfl, hT, rfl, rfl, hn, hm⟩ := twoOk_iff.1 (show twoOk t xs s ys = true by unfold twoOk; rw [hF, hG, decide_eq_true hts]; rfl)
        rw [two_of hT hn hm, if_pos rfl, if_pos rfl, natOf_natI, natOf_natI, show ((T : Nat) : Int).toNat = T from rfl]
        obtain ⟨P, hP, p1, p2, hp3, hp4⟩ := pow_named12 (show T ≤ 13 by omega)
        have hP64 : P ≤ 64 := by rw [← hP]; exact pow_64 hT
        have HO : Hid (∀ (u : World) (g : Nat) (W : Nat → Bool), (∀ i, i < P → W i = pairsB ns ms i) → TruthsIn u g P W → Calls Try.prog 61 #[.int .i64 T, .slice (some ⟨g, 0, none⟩) P P] u (MadeFam u T (natI (famAp T ns ms)))) := fun u g W hW ht =>
          l8Of_any T g P P (apB T (famB ns) (famB ms)) u hT up_ap hP ⟨ht.1, fun k hk => by have h := ht.2 k hk; rw [hW k hk, pairsB_ap hn.lt hm.lt] at h; exact h⟩
        have hlen1 := hn.len
        have hlen2 := hm.len
        rw [hP] at hlen1 hlen2
        have HLX : Hid (∀ k, k < ns.length → ns.getD k 0 ≤ 8192) := fun k hk => by
          have h := hn.lt (ns.getD k 0) (by rw [List.getD_eq_getElem?_getD, List.getElem?_eq_getElem hk]; simp)
          omega
        have HLY : Hid (∀ k, k < ms.length → ms.getD k 0 ≤ 8192) := fun k hk => by
          have h := hm.lt (ms.getD k 0) (by rw [List.getD_eq_getElem?_getD, List.getElem?_eq_getElem hk]; simp)
          omega
        have HL : Hid ((famAp T ns ms).length ≤ 64) := by have h := (famAp_ok T (by omega) ns ms).len; rw [hP] at h; rw [Hid]; omega
        have HOR : Hid (∀ x y : Nat, x ≤ 8192 → y ≤ 8192 → x < 2 ^ 14 ∧ y < 2 ^ 14 ∧ (x ||| y) < 2 ^ 14) := fun x y hx hy => ⟨by omega, by omega, Nat.or_lt_two_pow (by omega) (by omega)⟩
        clear hn hm hP hx hy hF hG
        generalize famAp T ns ms = R at *
        obtain ⟨n, hnn⟩ : ∃ n, ns.length = n := ⟨_, rfl⟩
        obtain ⟨m, hmm⟩ : ∃ m, ms.length = m := ⟨_, rfl⟩
        have HN := Lib.hid hnn
        have HM := Lib.hid hmm
        have hnx : (natI ns).length = n := by rw [natI_length]; exact hnn
        have hmx : (natI ms).length = m := by rw [natI_length]; exact hmm
        have HNX := Lib.hid hnx
        have HMX := Lib.hid hmx
        have HALL : Hid (ns.take n = ns) := by rw [Hid, ← hnn, List.take_length]
        rw [hnn] at hlen1 HLX
        rw [hmm] at hlen2 HLY
        have HC1 : Hid (∀ u, IntsIn u u.heap.size A (natI ns) → Calls Try.prog 71 #[.agg #[.int .i64 T, .slice A n c]] u fun e w' => e = .returned (.bool true) ∧ Below u.heap.size u w') := fun u hu => by
          have h := specFamilyOk_any (T : Nat) A c (natI ns) u hu hl
          rw [hnx, HF.out] at h
          exact h
        have HC2 : Hid (∀ u, IntsIn u u.heap.size B (natI ms) → Calls Try.prog 71 #[.agg #[.int .i64 T, .slice B m d]] u fun e w' => e = .returned (.bool true) ∧ Below u.heap.size u w') := fun u hu => by
          have h := specFamilyOk_any (T : Nat) B d (natI ms) u hu hl2
          rw [hmx, HG.out] at h
          exact h
        obtain ⟨i0, hi0, hz0, hz1, hz2⟩ := info_parts truth_info
        rw [hnx, hmx] at D0 ⊢
        obtain ⟨⟨f0, f1, -, fb, -, -⟩, ⟨g0, g1, -, -, -, -⟩, q0, q1, r0, r1, lt⟩ := id D0
        rw [hnx] at f1
        rw [hmx] at g1
        clear hnn hmm hnx hmx HF HG hl hl2
        go_enter Try.func33, Try.ntmps33
        go_wp2_with fail
        refine (HC1.out _ D0.f.ints).mono ?_
        rintro e1 w1 ⟨rfl, hb1⟩
        have D1 := D0.next hb1
        clear f0 f1 fb g0 g1 q0 q1 r0 r1 lt D0 hb1
        obtain ⟨⟨f0, f1, -, fb, -, -⟩, ⟨g0, g1, -, -, -, -⟩, q0, q1, r0, r1, lt⟩ := id D1
        rw [HNX.out] at f1
        rw [HMX.out] at g1
        go_wp2_with fail
        refine (HC2.out _ D1.g.ints).mono ?_
        rintro e2 w2 ⟨rfl, hb2⟩
        have D2 := D1.next hb2
        clear f0 f1 fb g0 g1 q0 q1 r0 r1 lt D1 hb2
        obtain ⟨⟨f0, f1, -, fb, -, -⟩, ⟨g0, g1, -, -, -, -⟩, q0, q1, r0, r1, lt⟩ := id D2
        rw [HNX.out] at f1
        rw [HMX.out] at g1
        go_wp2_with (at_make; refine wpList_make_full _ rfl _ _ 74 rfl (w.heap.size + 3) 4 i0 _ 1 Try.underlying74 hi0 hz0 hz1 .i64 .i64 P P P rfl rfl rfl rfl (by rw [hz2]; omega) (by simp [maxLen]; omega) (by omega) ?_; intro w3 hown3 hg3)
        have hb3 : Below (w.heap.size + 3) w2 w3 := (Below.refl _ _).grown hg3 (by omega) (by simp)
        have O3 : OwnT w3 (w.heap.size + 3) w2.heap.size P P (pairsB (ns.take 0) ms) := by
          unfold OwnT; rw [truths_congr (B := fun _ => false) (fun i _ => by simp [pairsB]), ← madeCells_truths]; exact hown3
        have D3 := D2.step hb3
        have gge : w.heap.size + 3 ≤ w2.heap.size := by omega
        clear f0 f1 fb g0 g1 q0 q1 r0 r1 lt D2 hown3 hg3 hb3 hi0 hz0 hz1 hz2 HC1 HC2
        generalize w2.heap.size = gb at *
        go_wp2_with fail
        go_loopw [7] (fun t wr => ∃ i : Nat, i ≤ n ∧ t = .int .i64 (i : Nat) ∧ OwnT wr (w.heap.size + 3) gb P P (pairsB (ns.take i) ms) ∧ TwoAt w wr T A c (natI ns) T B d (natI ms)) (fun t _ => n - (intOf t).toNat)
        case atStart => exact ⟨0, by omega, rfl, O3, D3⟩
        case round =>
          clear O3 D3
          obtain ⟨i, hi, rfl, O, D⟩ := hrel
          obtain ⟨⟨f0, f1, -, fb, -, -⟩, ⟨g0, g1, -, -, -, -⟩, q0, q1, r0, r1, lt⟩ := id D
          rw [HNX.out] at f1
          by_cases hin : i < n
          · have ii : (i : Int) < (n : Int) := by omega
            have O4 : OwnT wr (w.heap.size + 3) gb P P (apTo ns ms i 0) := by rw [apTo_start]; exact O
            have D4 := D
            clear O D
            go_wp2_with fail
            clear f0 f1 fb g0 g1 q0 q1 r0 r1 lt
            go_loopw [8] (fun t wr => ∃ j : Nat, j ≤ m ∧ t = .int .i64 (j : Nat) ∧ OwnT wr (w.heap.size + 3) gb P P (apTo ns ms i j) ∧ TwoAt w wr T A c (natI ns) T B d (natI ms)) (fun t _ => m - (intOf t).toNat)
            case atStart => exact ⟨0, by omega, rfl, O4, D4⟩
            case round =>
              clear O4 D4
              obtain ⟨j, hj, rfl, O, D⟩ := hrel
              obtain ⟨⟨f0, f1, frow, fb, -, -⟩, ⟨g0, g1, grow, -, -, -⟩, q0, q1, r0, r1, lt⟩ := id D
              rw [HNX.out] at f1
              rw [HMX.out] at g1
              by_cases hjm : j < m
              · have jj : (j : Int) < (m : Int) := by omega
                have hx := HLX.out i hin
                have hy := HLY.out j hjm
                obtain ⟨b, off, rfl, -, hcx⟩ := frow i (ns.getD i 0 : Nat) (by rw [natI, List.getElem?_map, List.getD_eq_getElem?_getD, List.getElem?_eq_getElem (show i < ns.length by rw [HN.out]; exact hin)]; simp)
                obtain ⟨b2, off2, rfl, -, hcy⟩ := grow j (ms.getD j 0 : Nat) (by rw [natI, List.getElem?_map, List.getD_eq_getElem?_getD, List.getElem?_eq_getElem (show j < ms.length by rw [HM.out]; exact hjm)]; simp)
                have HSKIP : Hid (ns.getD i 0 &&& ms.getD j 0 ≠ 0 → apTo ns ms i (j + 1) = apTo ns ms i j) := fun h => apTo_skip (by rw [HM.out]; exact hjm) h
                have HHIT : Hid (ns.getD i 0 &&& ms.getD j 0 = 0 → ∀ s, apTo ns ms i (j + 1) s = (apTo ns ms i j s || decide (s &&& (ns.getD i 0 ||| ms.getD j 0) = ns.getD i 0 ||| ms.getD j 0))) := fun h s => apTo_hit (by rw [HM.out]; exact hjm) h s
                generalize ns.getD i 0 = x at *
                generalize ms.getD j 0 = y at *
                have hax := and_small hx hy
                have hox := or_small hx hy
                have hz14 := (HOR.out x y hx hy).2.2
                clear frow grow
                by_cases hz : x &&& y = 0
                · have HE := Lib.hid (HHIT.out hz)
                  clear HSKIP HHIT
                  rw [hz] at hax
                  generalize x ||| y = z at *
                  have O1 : OwnT wr (w.heap.size + 3) gb P P (mixB (apTo ns ms i j) (apTo ns ms i (j + 1)) 0) := by rw [mixB_zero]; exact O
                  have HO1 := Lib.hid O1
                  have HD1 := Lib.hid D
                  clear O D O1
                  generalize apTo ns ms i j = F at *
                  obtain ⟨F2, hF2⟩ : ∃ F2, apTo ns ms i (j + 1) = F2 := ⟨_, rfl⟩
                  have HF2 := Lib.hid hF2
                  rw [hF2] at HE HO1
                  clear hF2
                  go_wp2_with fail
                  go_quiet (fail)
                  go_wp2_with fail
                  go_quiet (fail)
                  go_wp2_with fail
                  clear hcx hcy f0 f1 fb g0 g1 q0 q1 r0 r1 lt hax
                  go_loopw [10] (fun t wr => ∃ s : Nat, s ≤ P ∧ t = .int .i64 (s : Nat) ∧ OwnT wr (w.heap.size + 3) gb P P (mixB F F2 s) ∧ TwoAt w wr T (some ⟨b, off, none⟩) c (natI ns) T (some ⟨b2, off2, none⟩) d (natI ms)) (fun t _ => P - (intOf t).toNat)
                  case atStart => exact ⟨0, by omega, rfl, (HO1.out.drewN _).drewN _, (HD1.out.next (belowN (Below.refl _ _) _)).next (belowN (Below.refl _ _) _)⟩
                  case round =>
                    clear HO1 HD1
                    obtain ⟨s, hs, rfl, O, D⟩ := hrel
                    by_cases hlt : s < P
                    · have ik : (s : Int) < (P : Int) := by omega
                      obtain ⟨y1, y2⟩ := O.slot hlt
                      rw [mixB_at] at y1
                      have hput := mixB_put F F2 s
                      have hS := HE.out s
                      have O5 := fun v => O.store s v
                      have D5 := fun v => D.step ((Below.refl (w.heap.size + 3) wr).setCell (p := ⟨gb, s, none⟩) gge (.bool v))
                      have ha := and_nat (x := s) (y := z) (by omega) (by omega)
                      cases hcur : F s with
                      | true =>
                        rw [hcur] at y1 hS
                        rw [Bool.true_or] at hS
                        have O6 := O5 true
                        have D6 := D5 true
                        rw [hS] at hput
                        rw [hput] at O6
                        have HO6 := Lib.hid O6
                        have HD6 := Lib.hid D6
                        clear O5 D5 O6 D6 hS hcur O D hput
                        go_wp2_with fail
                        go_roundw
                        case rel => exact ⟨s + 1, by omega, by go_num, HO6.out, HD6.out⟩
                        case measure => simp [intOf]; omega
                      | false =>
                        rw [hcur] at y1 hS
                        rw [Bool.false_or] at hS
                        by_cases hzz : s &&& z = z
                        · rw [decide_eq_true hzz] at hS
                          rw [hzz] at ha
                          clear hzz
                          have O6 := O5 true
                          have D6 := D5 true
                          rw [hS] at hput
                          rw [hput] at O6
                          have HO6 := Lib.hid O6
                          have HD6 := Lib.hid D6
                          clear O5 D5 O6 D6 hS hcur O D hput
                          go_wp2_with fail
                          go_roundw
                          case rel => exact ⟨s + 1, by omega, by go_num, HO6.out, HD6.out⟩
                          case measure => simp [intOf]; omega
                        · rw [decide_eq_false hzz] at hS
                          have O6 := O5 false
                          have D6 := D5 false
                          rw [hS] at hput
                          rw [hput] at O6
                          have HO6 := Lib.hid O6
                          have HD6 := Lib.hid D6
                          clear O5 D5 O6 D6 hS hcur O D hput
                          generalize s &&& z = z2 at *
                          have hz1 : ((z2 : Int) = (z : Int)) = False := eq_false (by omega)
                          have hz2 : ((z : Int) = (z2 : Int)) = False := eq_false (by omega)
                          have hz3 : ((z2 : Int) == (z : Int)) = false := by simp; omega
                          go_wp2_with fail
                          go_roundw
                          case rel => exact ⟨s + 1, by omega, by go_num, HO6.out, HD6.out⟩
                          case measure => simp [intOf]; omega
                    · obtain rfl : s = P := by omega
                      have O5 : OwnT wr (w.heap.size + 3) gb s s (apTo ns ms i (j + 1)) := by rw [HF2.out]; exact O.congr fun i hi => mixB_in hi
                      have HO5 := Lib.hid O5
                      have HD5 := Lib.hid D
                      clear O O5 D HE HF2 hz14 hp3 hp4 hT p1 gge
                      have wj := IntWalk.wrap64_in ((j : Int) + 1) (by omega)
                      go_wp2_with fail
                      go_roundw
                      case rel => rw [wj]; clear wj; exact ⟨j + 1, by omega, by go_num, HO5.out, HD5.out⟩
                      case measure => rw [wj]; clear wj; simp [intOf]; omega
                · have HE := Lib.hid (HSKIP.out hz)
                  clear HSKIP HHIT hox hz14
                  generalize x &&& y = z at *
                  have hz1 : ((z : Int) = 0) = False := eq_false (by omega)
                  have hz2 : ((0 : Int) = (z : Int)) = False := eq_false (by omega)
                  have hz3 : ((z : Int) == 0) = false := by simp; omega
                  have hz4 : ((z : Int) != 0) = true := by simp; omega
                  have HO1 := Lib.hid O
                  have HD1 := Lib.hid D
                  clear O D
                  go_wp2_with fail
                  go_quiet (fail)
                  go_wp2_with fail
                  go_roundw
                  case rel => exact ⟨j + 1, by omega, by go_num, by rw [HE.out]; exact HO1.out.drewN _, HD1.out.next (belowN (Below.refl _ _) _)⟩
                  case measure => simp [intOf]; omega
              · obtain rfl : j = m := by omega
                have O5 : OwnT wr (w.heap.size + 3) gb P P (pairsB (ns.take (i + 1)) ms) := by
                  have h := apTo_end (ms := ms) (show i < ns.length by rw [HN.out]; exact hin)
                  rw [HM.out] at h
                  rw [← h]; exact O
                clear O
                go_wp2_with fail
                go_roundw
                case rel => exact ⟨i + 1, by omega, by go_num, O5, D⟩
                case measure => simp [intOf]; omega
          · obtain rfl : i = n := by omega
            rw [HALL.out] at O
            have hcall := HO.out wr gb (pairsB ns ms) (fun i hi => rfl) O.truths
            clear HO hin hi
            go_wp2_with fail
            refine hcall.mono ?_
            clear hcall
            rintro e4 w4 ⟨A4, k4, rfl, own4, hb4⟩
            have D4 := D.next hb4
            have hsz := hb4.size
            clear D O hb4 f0 f1 fb g0 g1 q0 q1 r0 r1
            obtain ⟨⟨f0, f1, -, fb, -, -⟩, ⟨g0, g1, -, -, -, -⟩, q0, q1, r0, r1, lt4⟩ := id D4
            go_wp2_with fail
            refine bodyPost_ret (v := .tuple #[.agg #[.int .i64 T, .slice A4 (natI R).length k4], .bool true]) (by simp [results, Try.results33, go_sem, *]) rfl ?_
            refine ⟨A4, k4, rfl, ?_, (fb.setCell (p := ⟨w.heap.size + 2, 0, none⟩) (by simp) _).setCell (p := ⟨w.heap.size + 2, 1, none⟩) (by simp) _⟩
            have hge := own4.ge
            exact OwnI.far (OwnI.far (own4.more (by omega)) (fun j hj => by have := hge j hj; simp; omega) _) (fun j hj => by have := hge j hj; simp; omega) _
      · have h2 : twoOk t xs s ys = false := by simp [twoOk, hts]
        have hne : (t == s) = false := by rw [beq_eq_false_iff_ne]; exact hts
        rw [h2, if_neg (by simp), if_neg (by simp)]
        clear hF hG h2
        obtain ⟨⟨f0, f1, -, fb, -, -⟩, ⟨g0, g1, -, -, -, -⟩, q0, q1, r0, r1, lt⟩ := id D0
        clear hx hy
        go_enter Try.func33, Try.ntmps33
        go_wp2_with fail
        refine (specFamilyOk_any _ _ _ _ _ D0.f.ints hl).mono ?_
        rintro e1 w1 ⟨rfl, hb1⟩
        rw [HF.out]
        have D1 := D0.next hb1
        clear f0 f1 fb g0 g1 q0 q1 r0 r1 lt D0 hb1
        obtain ⟨⟨f0, f1, -, fb, -, -⟩, ⟨g0, g1, -, -, -, -⟩, q0, q1, r0, r1, lt⟩ := id D1
        go_wp2_with fail
        refine (specFamilyOk_any _ _ _ _ _ D1.g.ints hl2).mono ?_
        rintro e2 w2 ⟨rfl, hb2⟩
        rw [HG.out]
        have D2 := D1.next hb2
        clear f0 f1 fb g0 g1 q0 q1 r0 r1 lt D1 hb2
        obtain ⟨⟨f0, f1, -, fb, -, -⟩, ⟨g0, g1, -, -, -, -⟩, q0, q1, r0, r1, lt⟩ := id D2
        go_wp2_with fail
        refine bodyPost_ret (v := .tuple #[.agg #[.int .i64 0, .slice none 0 0], .bool false]) (by simp [results, Try.results33, go_sem, *]) rfl ?_
        exact ⟨none, 0, rfl, OwnI.nil _ _, (fb.setCell (p := ⟨w.heap.size + 2, 0, none⟩) (by simp) _).setCell (p := ⟨w.heap.size + 2, 1, none⟩) (by simp) _⟩
end Go.Proofs.Ytmdmmebekicpkaa
