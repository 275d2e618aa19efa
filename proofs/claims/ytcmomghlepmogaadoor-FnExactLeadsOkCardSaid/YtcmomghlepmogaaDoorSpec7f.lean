/- Grids of the reference: PassesOk. -/
import Derived.Test.YtcmomghlepmogaaDoorSpec7e
namespace Go.Proofs.YtcmomghlepmogaaDoor
open Go.RowKit
set_option maxRecDepth 100000

theorem low_step (k : Nat) (hk : k < 5) : (2 ^ k - 1) ||| 2 ^ k = 2 ^ (k + 1) - 1 := by
  rcases (show k = 0 ∨ k = 1 ∨ k = 2 ∨ k = 3 ∨ k = 4 by omega) with rfl | rfl | rfl | rfl | rfl <;> decide

set_option maxHeartbeats 8000000 in
theorem specPassesOk_any (s c r : Int) (w : World) : Calls Tryd.prog 17 #[.int .i64 s, .int .i64 c, .int .i64 r] w fun e w' => e = .returned (.bool (passesI s c r)) ∧ Below w.heap.size w w' := by
  unfold passesI edgeB
  cases hB : gridOkB c r with
  | false =>
    have HB := Lib.hid hB
    clear hB
    go_enter Tryd.func17, Tryd.ntmps17
    go_wp2_with fail
    refine (specGridOk_any _ _ _).mono ?_
    rintro e1 w1 ⟨rfl, rfl⟩
    rw [HB.out]
    go_wp2_with fail
    go_returns
    exact ⟨rfl, Below.refl _ _⟩
  | true =>
    have HB := Lib.hid hB
    obtain ⟨C, R, rfl, rfl, hc, hr⟩ := grid_nat hB
    obtain ⟨-, E1, E13⟩ := grid_edges hc hr
    have HGE : Hid (∀ u, Calls Tryd.prog 13 #[.int .i64 C, .int .i64 R] u fun e w' => e = .returned (.int .i64 (gridE C R : Nat)) ∧ u = w') := fun u => by
      have h := specGridEdges_any C R u
      have e : gridEI C R = (gridE C R : Nat) := if_pos hB
      rw [e] at h; exact h
    obtain ⟨P, hP, p1, p2, hp3, hp4⟩ := pow_named12 E13
    have wP1 : IntKind.i64.wrap ((P : Int) - 1) = (P : Int) - 1 := IntWalk.i64_in _ (by omega)
    rw [show ((C : Nat) : Int).toNat = C from rfl, show ((R : Nat) : Int).toNat = R from rfl, hP]
    clear hB
    cases hA : inB s P with
    | false =>
      have HA : Hid ((decide (0 ≤ s) && decide (s ≤ (P : Int) - 1)) = false) := hA
      clear hA hP hc hr
      generalize gridE C R = E at *
      go_enter Tryd.func17, Tryd.ntmps17
      go_wp2_with fail
      refine (specGridOk_any _ _ _).mono ?_
      rintro e1 w1 ⟨rfl, rfl⟩
      rw [HB.out]
      go_wp2_with fail
      refine (HGE.out _).mono ?_
      rintro e2 w2 ⟨rfl, rfl⟩
      go_wp2_with fail
      refine (l1In_any _ _ _ _).mono ?_
      rintro e3 w3 ⟨rfl, rfl⟩
      rw [HA.out]
      go_wp2_with fail
      go_returns
      exact ⟨rfl, Below.refl _ _⟩
    | true =>
      have HA : Hid ((decide (0 ≤ s) && decide (s ≤ (P : Int) - 1)) = true) := hA
      obtain ⟨S, rfl, hS⟩ := inB_nat hA
      have hSE : S < 2 ^ gridE C R := by rw [hP]; exact hS
      rw [show ((S : Nat) : Int).toNat = S from rfl]
      obtain ⟨K, hK⟩ : ∃ K, C - 1 = K := ⟨_, rfl⟩
      have hK3 : 1 ≤ K ∧ K ≤ 3 := by omega
      have HFIN : Hid (∀ D, Reach (adjP (allP C R S K)) (K * (R + 1)) (2 ^ (K * (R + 1)) - 1) (rowLow K) D → orTo D (fun x => R * K + x) K = passesN C R S) := fun D h => by
        rw [← hK] at h ⊢
        rw [← passes_is hc hr hSE (h.congr fun a b _ _ => adj_are (fun a b => fields_are (by omega)) a b), orTo_mask (top_bits hc hr)]
      have HIN : Hid (∀ a b, (a, b) ∈ allP C R S K → a < K * (R + 1) ∧ b < K * (R + 1)) := fun a b h => by
        rw [← hK] at h ⊢
        have sh := fd_shape C (by omega) R (by omega)
        rcases (fields_are (by omega)).1 h with ⟨h1, h2⟩ | ⟨h1, h2⟩
        · unfold fdH at h1
          rw [maskOf_bit] at h1
          simp only [Bool.and_eq_true, decide_eq_true_eq] at h1
          have := (sh a h1.1).1 h1.2.1
          omega
        · unfold fdV at h1
          rw [maskOf_bit] at h1
          simp only [Bool.and_eq_true, decide_eq_true_eq] at h1
          have := (sh a h1.1).2 h1.2.1
          omega
      have hn12' := (lens_small C (by omega) R (by omega)).2
      have hF := (side_shape C (by omega) R (by omega) (by omega)).2
      rw [hK] at hn12' hF
      obtain ⟨n, hn⟩ : ∃ n, K * (R + 1) = n := ⟨_, rfl⟩
      have wR : IntKind.i64.wrap ((R : Int) + 1) = ((R + 1 : Nat) : Int) := by rw [IntWalk.i64_in _ (by omega)]; omega
      have wn : IntKind.i64.wrap ((K : Int) * ((R + 1 : Nat) : Int)) = (n : Int) := by rw [← Int.natCast_mul, hn]; exact IntWalk.i64_in _ (by omega)
      have wn2 : IntKind.i64.wrap ((K : Int) * ((R : Int) + 1)) = (n : Int) := by rw [show ((R : Int) + 1) = ((R + 1 : Nat) : Int) by omega]; exact wn
      have wK : IntKind.i64.wrap ((C : Int) - 1) = (K : Int) := by rw [IntWalk.i64_in _ (by omega)]; omega
      rw [hn] at HFIN HIN hF hn12'
      have HPL : Hid (∀ x y, x < K → y < R + 1 → y * K + x < n) := fun x y hx hy => by rw [← hn]; exact place_lt hx hy
      have HN := Lib.hid hn
      have HF := Lib.hid hF
      have HKC := Lib.hid hK
      have hCK : C ≤ K + 1 ∧ K + 1 ≤ C := by omega
      obtain ⟨v, hv⟩ : ∃ v, passesN C R S = v := ⟨_, rfl⟩
      rw [hv] at HFIN ⊢
      clear hP hSE hA hF hv hn hK
      generalize gridE C R = E at *
      obtain ⟨j0, hj0, y0, y1, y2⟩ := info_parts bool_info
      obtain ⟨i0, hi0, hz0, hz1, hz2⟩ := info_parts rows_info
      go_enter Tryd.func17, Tryd.ntmps17
      go_wp2_with fail
      refine (specGridOk_any _ _ _).mono ?_
      rintro e1 w1 ⟨rfl, rfl⟩
      rw [HB.out]
      go_wp2_with fail
      refine (HGE.out _).mono ?_
      rintro e2 w2 ⟨rfl, rfl⟩
      go_wp2_with fail
      refine (l1In_any _ _ _ _).mono ?_
      rintro e3 w3 ⟨rfl, rfl⟩
      rw [HA.out]
      go_wp2_with (at_make; refine wpList_make_full _ rfl _ _ 49 rfl w.heap.size 4 j0 _ 1 Tryd.underlying49 hj0 y0 y1 .i64 .i64 n n n rfl rfl rfl rfl (by rw [y2]; omega) (by simp [maxLen]; omega) (Nat.le_refl _) ?_; intro w4 hown4 hg4)
      have own4 : OwnB w4 w.heap.size w.heap.size n n 0 := by unfold OwnB; rw [← madeCells_bools]; exact hown4
      have bel4 : Below w.heap.size w w4 := (Below.refl _ _).grown hg4 (Nat.le_refl _) (by simp)
      clear hown4 hg4 y0 y1 y2 hj0
      have PS0 : PairSt w (w4.alloc (.cells #[] 31)) w.heap.size n n (2 ^ 0 - 1) (some ⟨w4.heap.size, 0, none⟩) 0 [] :=
        ⟨own4.next ((Below.refl _ _).alloc (Nat.le_refl _) _), RRows.empty w4 _ 2 _ (by have := own4.lt; omega), bel4.alloc bel4.size _⟩
      generalize hgd : w.heap.size = gd at *
      clear own4 bel4 HGE wP1 hp3 hp4
      go_wp2_with fail
      go_loopw [9, 10] (fun l x wr => ∃ (X : Nat) (OA : Option Addr) (oc : Nat), X ≤ K ∧ x = .int .i64 (X : Nat) ∧ l = .slice OA (allP C R S X).length oc ∧ PairSt w wr gd n n (2 ^ X - 1) OA oc (allP C R S X)) (fun _ x _ => K - (intOf x).toNat)
      case atStart => exact ⟨0, _, _, by omega, rfl, rfl, PS0⟩
      case round =>
        clear PS0
        obtain ⟨X, OA, oc, hX, rfl, rfl, PS⟩ := hrel
        by_cases hltx : X < K
        · have hXn : X < n := by have := HPL.out X 0 hltx (by omega); omega
          have izn : (X : Int) < (n : Int) := by omega
          obtain ⟨q1, q2⟩ := PS.own.slot hXn
          have PS1 : PairSt w (wr.setCell ⟨gd, X, none⟩ (.bool true)) gd n n (2 ^ (X + 1) - 1) OA oc (allP C R S X) :=
            ⟨by rw [← low_step X (by omega)]; exact PS.own.store X, rows_far PS.rows (by simp) _, PS.bel.setCell (by simp [hgd]) _⟩
          have HPS1 := Lib.hid PS1
          obtain ⟨AL, hAL⟩ : ∃ AL, allP C R S X = AL := ⟨_, rfl⟩
          rw [hAL] at HPS1 ⊢
          have hlen := allP_len C R S X
          rw [hAL] at hlen
          have hlen2 : AL.length ≤ 24 := Nat.le_trans hlen (Nat.le_trans (Nat.mul_le_mul (show X ≤ 3 by omega) (show R * 2 ≤ 8 by omega)) (by decide))
          have HAL : Hid (allP C R S (X + 1) = AL ++ colTo C R S X R) := by rw [Hid, allP, hAL]
          clear PS PS1 hAL hlen
          go_wp2_with fail
          go_loopw [9, 11] (fun l y wr => ∃ (Y : Nat) (OA : Option Addr) (oc : Nat), Y ≤ R ∧ y = .int .i64 (Y : Nat) ∧ l = .slice OA (AL ++ colTo C R S X Y).length oc ∧ PairSt w wr gd n n (2 ^ (X + 1) - 1) OA oc (AL ++ colTo C R S X Y)) (fun _ y _ => R - (intOf y).toNat)
          case atStart => exact ⟨0, OA, oc, by omega, rfl, by simp [colTo], by simpa [colTo] using HPS1.out⟩
          case round =>
            clear HPS1 q1 q2
            obtain ⟨Y, OA, oc, hY, rfl, rfl, PS⟩ := hrel
            by_cases hlt : Y < R
            · have hlen3 : (AL ++ colTo C R S X Y).length ≤ 40 := by have := colTo_len C R S X Y; rw [List.length_append]; omega
              obtain ⟨L1, hL1⟩ : ∃ L1, AL ++ colTo C R S X Y = L1 := ⟨_, rfl⟩
              obtain ⟨zz, hzz⟩ : ∃ zz, Y * K = zz := ⟨_, rfl⟩
              obtain ⟨pa, hpa⟩ : ∃ pa, zz + X = pa := ⟨_, rfl⟩
              obtain ⟨zy, hzy⟩ : ∃ zy, (Y + 1) * K = zy := ⟨_, rfl⟩
              obtain ⟨pb, hpb⟩ : ∃ pb, zy + X = pb := ⟨_, rfl⟩
              obtain ⟨pb1, hpb1⟩ : ∃ pb1, pb + 1 = pb1 := ⟨_, rfl⟩
              have HROW : Hid (∀ v1 v2, d1L C S X Y = v1 → d2L C R S X Y = v2 → AL ++ colTo C R S X (Y + 1) = (if v2 = true then (if v1 = true then L1 ++ [(pa, pb)] else L1) ++ [(pb, pb1)] else (if v1 = true then L1 ++ [(pa, pb)] else L1))) := fun v1 v2 h1 h2 => by
                rw [colTo, cellP, h1, h2, HKC.out, hzz, hpa, hzy, hpb, hpb1, ← List.append_assoc, hL1]
                cases v1 <;> cases v2 <;> simp
              rw [hL1] at PS hlen3 ⊢
              have hzz9 : zz ≤ 9 := by rw [← hzz]; exact Nat.mul_le_mul (show Y ≤ 3 by omega) hK3.2
              have hzy9 : zy ≤ 9 := by rw [← hzy]; exact Nat.mul_le_mul (show Y + 1 ≤ 3 by omega) hK3.2
              have wz0 : IntKind.i64.wrap ((Y : Int) * (K : Int)) = (zz : Int) := by rw [← Int.natCast_mul, hzz]; exact IntWalk.i64_in _ (by omega)
              have wa : IntKind.i64.wrap ((zz : Int) + (X : Int)) = (pa : Int) := by rw [IntWalk.i64_in _ (by omega)]; omega
              have wy1 : IntKind.i64.wrap ((Y : Int) + 1) = (Y : Int) + 1 := IntWalk.i64_in _ (by omega)
              have wzy : IntKind.i64.wrap (((Y : Int) + 1) * (K : Int)) = (zy : Int) := by rw [show ((Y : Int) + 1) = ((Y + 1 : Nat) : Int) by omega, ← Int.natCast_mul, hzy]; exact IntWalk.i64_in _ (by omega)
              have wb : IntKind.i64.wrap ((zy : Int) + (X : Int)) = (pb : Int) := by rw [IntWalk.i64_in _ (by omega)]; omega
              have wb1 : IntKind.i64.wrap ((pb : Int) + 1) = (pb1 : Int) := by rw [IntWalk.i64_in _ (by omega)]; omega
              have wx1 : IntKind.i64.wrap ((X : Int) + 1) = (X : Int) + 1 := IntWalk.i64_in _ (by omega)
              have hlv0 : Y * (C - 1) ≤ 2 * 3 := Nat.mul_le_mul (by omega) (by omega)
              have hup0 : Y * (C - 2) ≤ 2 * 2 := Nat.mul_le_mul (by omega) (by omega)
              have hup1 : (C - 1) * R ≤ 3 * 3 := Nat.mul_le_mul (by omega) hr.2
              obtain ⟨lv, hlv⟩ : ∃ lv, Y * (C - 1) + X = lv := ⟨_, rfl⟩
              obtain ⟨up, hup⟩ : ∃ up, (C - 1) * R + Y * (C - 2) + (X + 1) - 1 = up := ⟨_, rfl⟩
              have HLV : Hid (∀ u, Calls Tryd.prog 38 #[.int .i64 X, .int .i64 Y, .int .i64 C] u fun e w' => e = .returned (.int .i64 (lv : Nat)) ∧ u = w') := fun u => l7Level_any X Y C lv hlv (by omega) (by omega) (by omega) u
              have HUP : Hid (∀ u, Calls Tryd.prog 39 #[.int .i64 ((X : Int) + 1), .int .i64 Y, .int .i64 C, .int .i64 R] u fun e w' => e = .returned (.int .i64 (up : Nat)) ∧ u = w') := fun u => by
                have := l7Upright_any (X + 1) Y C R up hup (by omega) (by omega) (by omega) (by omega) u
                rw [show ((X + 1 : Nat) : Int) = (X : Int) + 1 by omega] at this; exact this
              have hlv13 : lv ≤ 13 := by omega
              have hup13 : up ≤ 20 := by omega
              have C1 : d1L C S X Y = !S.testBit lv := by unfold d1L; rw [hlv]
              have C2 : d2L C R S X Y = (decide (X + 1 < K) && (decide (Y + 1 < R) && !S.testBit up)) := by unfold d2L; rw [hup, HKC.out]
              have HST := Lib.hid PS
              obtain ⟨k, hk⟩ : ∃ k, L1.length = k := ⟨_, rfl⟩
              have HK := Lib.hid hk
              rw [hk] at hlen3 ⊢
              clear PS hL1 hpa hzy hpb hpb1 hlv hup hlv0 hup0 hup1 hk hlen2 hzz
              cases hb1 : S.testBit lv with
              | false =>
                have q1 := tm0 hb1
                have HC1 : d1L C S X Y = true := by rw [C1, hb1]; rfl
                clear C1 hb1
                by_cases hx1 : X + 1 < K
                · have ix1 : (X : Int) + 1 < (K : Int) := by omega
                  rw [show decide (X + 1 < K) = true by simpa using hx1, Bool.true_and] at C2
                  by_cases hy1 : Y + 1 < R
                  · have iy1 : (Y : Int) + 1 < (R : Int) := by omega
                    rw [show decide (Y + 1 < R) = true by simpa using hy1, Bool.true_and] at C2
                    cases hb2 : S.testBit up with
                    | false =>
                      have q2 := tm0 hb2
                      have HC2 : d2L C R S X Y = true := by rw [C2, hb2]; rfl
                      have HQ : Hid (AL ++ colTo C R S X (Y + 1) = (L1 ++ [(pa, pb)]) ++ [(pb, pb1)]) := HROW.out true true HC1 HC2
                      clear C2 hb2 HC1 HC2 HROW
                      go_wp2_with fail
                      refine (HLV.out _).mono ?_
                      rintro e6 w6 ⟨rfl, rfl⟩
                      obtain ⟨vsa, vla, voa, vra⟩ := id HST.out.rows
                      rw [HK.out] at vla voa vra
                      have oba := fun j hj => (World.ownsRow.lt voa j hj)
                      have gdla := HST.out.own.lt
                      go_wp2_with (at_builtin; (refine wpList_append_lies _ rfl (.tmp 56) (.tmp 69) 50 rfl (gd + 1) 31 i0 _ 1 24 Tryd.underlying50 hi0 hz0 hz1 hz2 rfl (by omega) (.slice OA (k) oc) (k) vsa rfl (World.ownsRow.alloc (World.ownsRow.alloc voa _) _) ⟨wr.heap.size + 1, 0, none⟩ 1 1 [.slice (some ⟨wr.heap.size, 0, none⟩) 2 2] rfl rfl (World.news_of_block (cs := #[.slice (some ⟨wr.heap.size, 0, none⟩) 2 2]) (t := 31) (fr := (0, 0)) (by simpa using heap_alloc_new (wr.alloc (.cells #[.int .i64 (pa : Nat), .int .i64 (pb : Nat)] 3)) (.cells #[.slice (some ⟨wr.heap.size, 0, none⟩) 2 2] 31))) (by simp [Value.oneCell']) (by omega) (by simp [maxLen]; omega) (by omega) (by simp; omega) _ rfl ?_); intro gga cca w5a hown5a hgrowa hata hlt5a)
                      have HSTa := Lib.hid (PairSt.push (a := pa) (b := pb) HK.out HST.out.own HST.out.bel vla voa vra hown5a hgrowa hata)
                      clear vla voa vra oba gdla hown5a hgrowa hata hlt5a
                      have HKa : Hid ((L1 ++ [(pa, pb)]).length = k + 1) := by rw [Hid, List.length_append, HK.out]; rfl
                      go_wp2_with fail
                      refine (HUP.out _).mono ?_
                      rintro e7 w7 ⟨rfl, rfl⟩
                      obtain ⟨vsb, vlb, vob, vrb⟩ := id HSTa.out.rows
                      rw [HKa.out] at vlb vob vrb
                      have obb := fun j hj => (World.ownsRow.lt vob j hj)
                      have gdlb := HSTa.out.own.lt
                      go_wp2_with (at_builtin; (refine wpList_append_lies _ rfl (.tmp 93) (.tmp 108) 50 rfl (gd + 1) 31 i0 _ 1 24 Tryd.underlying50 hi0 hz0 hz1 hz2 rfl (by omega) (.slice (some ⟨gga, 0, none⟩) (k + 1) cca) (k + 1) vsb rfl (World.ownsRow.alloc (World.ownsRow.alloc vob _) _) ⟨w5a.heap.size + 1, 0, none⟩ 1 1 [.slice (some ⟨w5a.heap.size, 0, none⟩) 2 2] rfl rfl (World.news_of_block (cs := #[.slice (some ⟨w5a.heap.size, 0, none⟩) 2 2]) (t := 31) (fr := (0, 0)) (by simpa using heap_alloc_new (w5a.alloc (.cells #[.int .i64 (pb : Nat), .int .i64 (pb1 : Nat)] 3)) (.cells #[.slice (some ⟨w5a.heap.size, 0, none⟩) 2 2] 31))) (by simp [Value.oneCell']) (by omega) (by simp [maxLen]; omega) (by omega) (by simp; omega) _ rfl ?_); intro ggb ccb w5b hown5b hgrowb hatb hlt5b)
                      have HSTb := Lib.hid (PairSt.push (a := pb) (b := pb1) HKa.out HSTa.out.own HSTa.out.bel vlb vob vrb hown5b hgrowb hatb)
                      clear vlb vob vrb obb gdlb hown5b hgrowb hatb hlt5b
                      go_wp2_with fail
                      go_roundw
                      case rel => exact ⟨Y + 1, (some ⟨ggb, 0, none⟩), ccb, by omega, by go_num, by rw [HQ.out]; simp [HK.out], by rw [HQ.out]; exact HSTb.out⟩
                      case measure => first | (simp [intOf]; done) | (simp [intOf]; omega)

                    | true =>
                      have q2 := tm1 hb2
                      have HC2 : d2L C R S X Y = false := by rw [C2, hb2]; rfl
                      have HQ : Hid (AL ++ colTo C R S X (Y + 1) = L1 ++ [(pa, pb)]) := HROW.out true false HC1 HC2
                      clear C2 hb2 HC1 HC2 HROW
                      go_wp2_with fail
                      refine (HLV.out _).mono ?_
                      rintro e6 w6 ⟨rfl, rfl⟩
                      obtain ⟨vsa, vla, voa, vra⟩ := id HST.out.rows
                      rw [HK.out] at vla voa vra
                      have oba := fun j hj => (World.ownsRow.lt voa j hj)
                      have gdla := HST.out.own.lt
                      go_wp2_with (at_builtin; (refine wpList_append_lies _ rfl (.tmp 56) (.tmp 69) 50 rfl (gd + 1) 31 i0 _ 1 24 Tryd.underlying50 hi0 hz0 hz1 hz2 rfl (by omega) (.slice OA (k) oc) (k) vsa rfl (World.ownsRow.alloc (World.ownsRow.alloc voa _) _) ⟨wr.heap.size + 1, 0, none⟩ 1 1 [.slice (some ⟨wr.heap.size, 0, none⟩) 2 2] rfl rfl (World.news_of_block (cs := #[.slice (some ⟨wr.heap.size, 0, none⟩) 2 2]) (t := 31) (fr := (0, 0)) (by simpa using heap_alloc_new (wr.alloc (.cells #[.int .i64 (pa : Nat), .int .i64 (pb : Nat)] 3)) (.cells #[.slice (some ⟨wr.heap.size, 0, none⟩) 2 2] 31))) (by simp [Value.oneCell']) (by omega) (by simp [maxLen]; omega) (by omega) (by simp; omega) _ rfl ?_); intro gga cca w5a hown5a hgrowa hata hlt5a)
                      have HSTa := Lib.hid (PairSt.push (a := pa) (b := pb) HK.out HST.out.own HST.out.bel vla voa vra hown5a hgrowa hata)
                      clear vla voa vra oba gdla hown5a hgrowa hata hlt5a
                      have HKa : Hid ((L1 ++ [(pa, pb)]).length = k + 1) := by rw [Hid, List.length_append, HK.out]; rfl
                      go_wp2_with fail
                      refine (HUP.out _).mono ?_
                      rintro e7 w7 ⟨rfl, rfl⟩
                      go_wp2_with fail
                      go_roundw
                      case rel => exact ⟨Y + 1, (some ⟨gga, 0, none⟩), cca, by omega, by go_num, by rw [HQ.out]; simp [HK.out], by rw [HQ.out]; exact HSTa.out⟩
                      case measure => first | (simp [intOf]; done) | (simp [intOf]; omega)

                  · have iy1 : ¬ (Y : Int) + 1 < (R : Int) := by omega
                    have HC2 : d2L C R S X Y = false := by rw [C2]; simp [hy1]
                    have HQ : Hid (AL ++ colTo C R S X (Y + 1) = L1 ++ [(pa, pb)]) := HROW.out true false HC1 HC2
                    clear C2 HC1 HC2 HROW HUP
                    go_wp2_with fail
                    refine (HLV.out _).mono ?_
                    rintro e6 w6 ⟨rfl, rfl⟩
                    obtain ⟨vsa, vla, voa, vra⟩ := id HST.out.rows
                    rw [HK.out] at vla voa vra
                    have oba := fun j hj => (World.ownsRow.lt voa j hj)
                    have gdla := HST.out.own.lt
                    go_wp2_with (at_builtin; (refine wpList_append_lies _ rfl (.tmp 56) (.tmp 69) 50 rfl (gd + 1) 31 i0 _ 1 24 Tryd.underlying50 hi0 hz0 hz1 hz2 rfl (by omega) (.slice OA (k) oc) (k) vsa rfl (World.ownsRow.alloc (World.ownsRow.alloc voa _) _) ⟨wr.heap.size + 1, 0, none⟩ 1 1 [.slice (some ⟨wr.heap.size, 0, none⟩) 2 2] rfl rfl (World.news_of_block (cs := #[.slice (some ⟨wr.heap.size, 0, none⟩) 2 2]) (t := 31) (fr := (0, 0)) (by simpa using heap_alloc_new (wr.alloc (.cells #[.int .i64 (pa : Nat), .int .i64 (pb : Nat)] 3)) (.cells #[.slice (some ⟨wr.heap.size, 0, none⟩) 2 2] 31))) (by simp [Value.oneCell']) (by omega) (by simp [maxLen]; omega) (by omega) (by simp; omega) _ rfl ?_); intro gga cca w5a hown5a hgrowa hata hlt5a)
                    have HSTa := Lib.hid (PairSt.push (a := pa) (b := pb) HK.out HST.out.own HST.out.bel vla voa vra hown5a hgrowa hata)
                    clear vla voa vra oba gdla hown5a hgrowa hata hlt5a
                    have HKa : Hid ((L1 ++ [(pa, pb)]).length = k + 1) := by rw [Hid, List.length_append, HK.out]; rfl
                    go_wp2_with fail
                    go_roundw
                    case rel => exact ⟨Y + 1, (some ⟨gga, 0, none⟩), cca, by omega, by go_num, by rw [HQ.out]; simp [HK.out], by rw [HQ.out]; exact HSTa.out⟩
                    case measure => first | (simp [intOf]; done) | (simp [intOf]; omega)

                · have ix1 : ¬ (X : Int) + 1 < (K : Int) := by omega
                  have HC2 : d2L C R S X Y = false := by rw [C2]; simp [hx1]
                  have HQ : Hid (AL ++ colTo C R S X (Y + 1) = L1 ++ [(pa, pb)]) := HROW.out true false HC1 HC2
                  clear C2 HC1 HC2 HROW HUP
                  go_wp2_with fail
                  refine (HLV.out _).mono ?_
                  rintro e6 w6 ⟨rfl, rfl⟩
                  obtain ⟨vsa, vla, voa, vra⟩ := id HST.out.rows
                  rw [HK.out] at vla voa vra
                  have oba := fun j hj => (World.ownsRow.lt voa j hj)
                  have gdla := HST.out.own.lt
                  go_wp2_with (at_builtin; (refine wpList_append_lies _ rfl (.tmp 56) (.tmp 69) 50 rfl (gd + 1) 31 i0 _ 1 24 Tryd.underlying50 hi0 hz0 hz1 hz2 rfl (by omega) (.slice OA (k) oc) (k) vsa rfl (World.ownsRow.alloc (World.ownsRow.alloc voa _) _) ⟨wr.heap.size + 1, 0, none⟩ 1 1 [.slice (some ⟨wr.heap.size, 0, none⟩) 2 2] rfl rfl (World.news_of_block (cs := #[.slice (some ⟨wr.heap.size, 0, none⟩) 2 2]) (t := 31) (fr := (0, 0)) (by simpa using heap_alloc_new (wr.alloc (.cells #[.int .i64 (pa : Nat), .int .i64 (pb : Nat)] 3)) (.cells #[.slice (some ⟨wr.heap.size, 0, none⟩) 2 2] 31))) (by simp [Value.oneCell']) (by omega) (by simp [maxLen]; omega) (by omega) (by simp; omega) _ rfl ?_); intro gga cca w5a hown5a hgrowa hata hlt5a)
                  have HSTa := Lib.hid (PairSt.push (a := pa) (b := pb) HK.out HST.out.own HST.out.bel vla voa vra hown5a hgrowa hata)
                  clear vla voa vra oba gdla hown5a hgrowa hata hlt5a
                  have HKa : Hid ((L1 ++ [(pa, pb)]).length = k + 1) := by rw [Hid, List.length_append, HK.out]; rfl
                  go_wp2_with fail
                  go_roundw
                  case rel => exact ⟨Y + 1, (some ⟨gga, 0, none⟩), cca, by omega, by go_num, by rw [HQ.out]; simp [HK.out], by rw [HQ.out]; exact HSTa.out⟩
                  case measure => first | (simp [intOf]; done) | (simp [intOf]; omega)
              | true =>
                have q1 := tm1 hb1
                have HC1 : d1L C S X Y = false := by rw [C1, hb1]; rfl
                clear C1 hb1
                by_cases hx1 : X + 1 < K
                · have ix1 : (X : Int) + 1 < (K : Int) := by omega
                  rw [show decide (X + 1 < K) = true by simpa using hx1, Bool.true_and] at C2
                  by_cases hy1 : Y + 1 < R
                  · have iy1 : (Y : Int) + 1 < (R : Int) := by omega
                    rw [show decide (Y + 1 < R) = true by simpa using hy1, Bool.true_and] at C2
                    cases hb2 : S.testBit up with
                    | false =>
                      have q2 := tm0 hb2
                      have HC2 : d2L C R S X Y = true := by rw [C2, hb2]; rfl
                      have HQ : Hid (AL ++ colTo C R S X (Y + 1) = L1 ++ [(pb, pb1)]) := HROW.out false true HC1 HC2
                      clear C2 hb2 HC1 HC2 HROW
                      go_wp2_with fail
                      refine (HLV.out _).mono ?_
                      rintro e6 w6 ⟨rfl, rfl⟩
                      go_wp2_with fail
                      refine (HUP.out _).mono ?_
                      rintro e7 w7 ⟨rfl, rfl⟩
                      obtain ⟨vsb, vlb, vob, vrb⟩ := id HST.out.rows
                      rw [HK.out] at vlb vob vrb
                      have obb := fun j hj => (World.ownsRow.lt vob j hj)
                      have gdlb := HST.out.own.lt
                      go_wp2_with (at_builtin; (refine wpList_append_lies _ rfl (.tmp 93) (.tmp 108) 50 rfl (gd + 1) 31 i0 _ 1 24 Tryd.underlying50 hi0 hz0 hz1 hz2 rfl (by omega) (.slice OA (k) oc) (k) vsb rfl (World.ownsRow.alloc (World.ownsRow.alloc vob _) _) ⟨wr.heap.size + 1, 0, none⟩ 1 1 [.slice (some ⟨wr.heap.size, 0, none⟩) 2 2] rfl rfl (World.news_of_block (cs := #[.slice (some ⟨wr.heap.size, 0, none⟩) 2 2]) (t := 31) (fr := (0, 0)) (by simpa using heap_alloc_new (wr.alloc (.cells #[.int .i64 (pb : Nat), .int .i64 (pb1 : Nat)] 3)) (.cells #[.slice (some ⟨wr.heap.size, 0, none⟩) 2 2] 31))) (by simp [Value.oneCell']) (by omega) (by simp [maxLen]; omega) (by omega) (by simp; omega) _ rfl ?_); intro ggb ccb w5b hown5b hgrowb hatb hlt5b)
                      have HSTb := Lib.hid (PairSt.push (a := pb) (b := pb1) HK.out HST.out.own HST.out.bel vlb vob vrb hown5b hgrowb hatb)
                      clear vlb vob vrb obb gdlb hown5b hgrowb hatb hlt5b
                      go_wp2_with fail
                      go_roundw
                      case rel => exact ⟨Y + 1, (some ⟨ggb, 0, none⟩), ccb, by omega, by go_num, by rw [HQ.out]; simp [HK.out], by rw [HQ.out]; exact HSTb.out⟩
                      case measure => first | (simp [intOf]; done) | (simp [intOf]; omega)

                    | true =>
                      have q2 := tm1 hb2
                      have HC2 : d2L C R S X Y = false := by rw [C2, hb2]; rfl
                      have HQ : Hid (AL ++ colTo C R S X (Y + 1) = L1) := HROW.out false false HC1 HC2
                      clear C2 hb2 HC1 HC2 HROW
                      go_wp2_with fail
                      refine (HLV.out _).mono ?_
                      rintro e6 w6 ⟨rfl, rfl⟩
                      go_wp2_with fail
                      refine (HUP.out _).mono ?_
                      rintro e7 w7 ⟨rfl, rfl⟩
                      go_wp2_with fail
                      go_roundw
                      case rel => exact ⟨Y + 1, OA, oc, by omega, by go_num, by rw [HQ.out]; simp [HK.out], by rw [HQ.out]; exact HST.out⟩
                      case measure => first | (simp [intOf]; done) | (simp [intOf]; omega)

                  · have iy1 : ¬ (Y : Int) + 1 < (R : Int) := by omega
                    have HC2 : d2L C R S X Y = false := by rw [C2]; simp [hy1]
                    have HQ : Hid (AL ++ colTo C R S X (Y + 1) = L1) := HROW.out false false HC1 HC2
                    clear C2 HC1 HC2 HROW HUP
                    go_wp2_with fail
                    refine (HLV.out _).mono ?_
                    rintro e6 w6 ⟨rfl, rfl⟩
                    go_wp2_with fail
                    go_roundw
                    case rel => exact ⟨Y + 1, OA, oc, by omega, by go_num, by rw [HQ.out]; simp [HK.out], by rw [HQ.out]; exact HST.out⟩
                    case measure => first | (simp [intOf]; done) | (simp [intOf]; omega)

                · have ix1 : ¬ (X : Int) + 1 < (K : Int) := by omega
                  have HC2 : d2L C R S X Y = false := by rw [C2]; simp [hx1]
                  have HQ : Hid (AL ++ colTo C R S X (Y + 1) = L1) := HROW.out false false HC1 HC2
                  clear C2 HC1 HC2 HROW HUP
                  go_wp2_with fail
                  refine (HLV.out _).mono ?_
                  rintro e6 w6 ⟨rfl, rfl⟩
                  go_wp2_with fail
                  go_roundw
                  case rel => exact ⟨Y + 1, OA, oc, by omega, by go_num, by rw [HQ.out]; simp [HK.out], by rw [HQ.out]; exact HST.out⟩
                  case measure => first | (simp [intOf]; done) | (simp [intOf]; omega)
            · obtain rfl : Y = R := by omega
              go_wp2_with fail
              go_roundw
              case rel => exact ⟨X + 1, OA, oc, by omega, by go_num, by rw [HAL.out], by rw [HAL.out]; exact PS⟩
              case measure => simp [intOf]; omega
        · obtain rfl : X = K := by omega
          have hlen := allP_len C R S X
          have hlen2 : (allP C R S X).length ≤ 24 := Nat.le_trans hlen (Nat.le_trans (Nat.mul_le_mul (show X ≤ 3 by omega) (show R * 2 ≤ 8 by omega)) (by decide))
          have HGROW := Lib.hid (l7Grow_any gd n n oc (rowLow X) OA (allP C R S X) wr w.heap.size PS.own (PS.rows.pairs (by omega)) HIN.out HF.out hn12' (by omega))
          have HBEL := Lib.hid PS.bel
          clear PS hlen
          generalize allP C R S X = AL at *
          generalize AL.length = k at *
          go_wp2_with fail
          refine HGROW.out.mono ?_
          rintro e5 w5 ⟨D, hD, rfl, own5, hb5⟩
          have HV := Lib.hid (HFIN.out D hD)
          have BB := HBEL.out.trans hb5
          clear HFIN HGROW HBEL hD hb5
          obtain ⟨f, hf⟩ : ∃ f : Nat → Nat, (fun x => R * X + x) = f := ⟨_, rfl⟩
          rw [hf] at HV
          have HFD : Hid (∀ x, x < X → f x < n ∧ R * X + x = f x) := fun x hx => by
            rw [← hf]
            exact ⟨HPL.out x R hx (by omega), rfl⟩
          obtain ⟨zz, hzz⟩ : ∃ zz, R * X = zz := ⟨_, rfl⟩
          have hzz12 : zz ≤ 12 := by rw [← hzz]; exact Nat.le_trans (Nat.mul_le_mul hr.2 hK3.2) (by decide)
          have wz : IntKind.i64.wrap ((R : Int) * (X : Int)) = (zz : Int) := by rw [← Int.natCast_mul, hzz]; exact IntWalk.i64_in _ (by omega)
          rw [hzz] at HFD
          clear hf HPL HIN HF hzz
          go_wp2_with fail
          go_loopw [12] (fun y wr => ∃ J : Nat, J ≤ X ∧ y = .int .i64 (J : Nat) ∧ orTo D f J = false ∧ wr = w5) (fun y _ => X - (intOf y).toNat)
          case atStart => exact ⟨0, by omega, rfl, rfl, rfl⟩
          case round =>
            obtain ⟨J, hJ, rfl, hor, rfl⟩ := hrel
            by_cases hltj : J < X
            · obtain ⟨f1, f2⟩ := HFD.out J hltj
              have wz3 : IntKind.i64.wrap ((zz : Int) + (J : Int)) = ((f J : Nat) : Int) := by rw [IntWalk.i64_in _ (by omega)]; omega
              obtain ⟨x1, x2⟩ := own5.slot f1
              have HS : Hid (orTo D f (J + 1) = (orTo D f J || D.testBit (f J))) := rfl
              rw [hor, Bool.false_or] at HS
              have ifn : ((f J : Nat) : Int) < (n : Int) := by omega
              have HTRUE : Hid (D.testBit (f J) = true → v = true) := fun h => by rw [← HV.out, orTo_iff]; exact ⟨J, hltj, h⟩
              clear f2 hor
              generalize D.testBit (f J) = b at *
              generalize f J = z at *
              cases b with
              | true =>
                have hv := HTRUE.out rfl
                subst hv
                go_wp2_with fail
                go_returns
                exact ⟨rfl, by first | exact BB | (rw [hgd] at BB; exact BB)⟩
              | false =>
                go_wp2_with fail
                go_roundw
                case rel => exact ⟨J + 1, by omega, by go_num, HS.out, by first | rfl | trivial⟩
                case measure => simp [intOf]; omega
            · obtain rfl : J = X := by omega
              have hv : v = false := by rw [← HV.out]; exact hor
              subst hv
              go_wp2_with fail
              go_returns
              exact ⟨rfl, by first | exact BB | (rw [hgd] at BB; exact BB)⟩
end Go.Proofs.YtcmomghlepmogaaDoor
