/- The law FnPivotOk holds of every code: a pivot is on some path and in some cut; and it is one with the edge exactly if it is one without it. -/
import Derived.Test.YtlcgbmeneajfoacBytes
import Derived.Test.YtlcgbmeneajfoacDraw6
import Derived.Test.YtlcgbmeneajfoacSpec6
import Derived.Test.YtlcgbmeneajfoacImpl6
import Derived.Test.YtlcgbmeneajfoacImpl4
import Derived.Test.YtlcgbmeneajfoacClass
import Derived.Test.YtlcgbmeneajfoacObj
namespace Go.Proofs.Ytlcgbmeneajfoac
open Go.RowKit
set_option maxRecDepth 100000

theorem bit_at (x k : Nat) : ((x : Int) / 2 ^ k).tmod 2 = if x.testBit k = true then 1 else 0 := by
  rw [tmod_of]
  have h := bit_of x k
  generalize x / 2 ^ k = y at *
  by_cases hb : x.testBit k = true
  · rw [if_pos hb]; rw [hb] at h; have := of_decide_eq_true h.symm; omega
  · rw [if_neg hb]; have : ¬ y % 2 = 1 := fun e => hb (by rw [h]; exact decide_eq_true e)
    omega
/-- A state with the edge is a pivot's exactly if the one without it is. -/
theorem pivB_with {n : Int} {es : List (Int × Int)} {a b : Int} {k S : Nat} (hs : stateOkB n es S = true) (hk : k < es.length) :
    pivB n es a b (clrN k S + 2 ^ k : Nat) (k : Nat) = pivB n es a b (clrN k S : Nat) (k : Nat) := by
  obtain ⟨hn, -, s1⟩ := stateOkB_iff.1 hs
  have h9 := (netOkB_iff.1 hn).2.1
  obtain ⟨l, hl⟩ : ∃ l, es.length = l + 1 := ⟨es.length - 1, by omega⟩
  have hS : S < 2 ^ es.length := by
    have h2 : ((2 : Nat) : Int) = 2 := rfl
    have : ((S : Nat) : Int) < ((2 ^ es.length : Nat) : Int) := by rw [Int.natCast_pow, h2]; exact s1
    exact Int.ofNat_lt.1 this
  obtain ⟨t, ht, he⟩ := clr_put (k := k) (l := l) (by omega) (by omega) (by rw [← hl]; exact hS)
  have h1 : putR k t + 2 ^ k < 2 ^ es.length := by rw [hl]; exact putR_more_lt (by omega) ht
  have h0 : putR k t < 2 ^ es.length := Nat.lt_of_le_of_lt (Nat.le_add_right _ _) h1
  unfold pivB
  rw [← he, state_of hn h1, state_of hn h0, show ((k : Nat) : Int).toNat = k from rfl, show ((putR k t + 2 ^ k : Nat) : Int).toNat = putR k t + 2 ^ k from rfl, show ((putR k t : Nat) : Int).toNat = putR k t from rfl, pivN_set, pivN_put]

set_option maxHeartbeats 4000000 in
theorem pivotOk_law (A : Option Addr) (cap l : Nat) (w : World) (hb : BytesIn w w.heap.size A l) (hc : l ≤ cap) :
    Calls Try.prog 10 #[.slice A l cap] w fun e w' => e = .returned (.bool true) ∧ Below w.heap.size w w' := by
  by_cases hbig : 1048576 < l
  · go_enter Try.func10, Try.ntmps10
    go_wp2
    go_returns
    exact ⟨rfl, Below.refl _ _⟩
  · have hl : l ≤ 1048576 := by omega
    clear hbig
    go_enter Try.func10, Try.ntmps10
    go_wp2_with fail
    refine (drawPivotOk_any _ _ _ _ hb hl hc).mono ?_
    rintro e1 w1 ⟨n, A1, c, es, a, b, t, s, rfl, own, n1, n7, hle, a1, a2, b1, b2, t0, t1, u1, u2, hb1⟩
    have L1 := ArgNet.start (cap := c) (n := n) 30 own.edges
    have HB := Lib.hid hb1
    have hle' : es.length ≤ 1048576 := by omega
    have s1 := hb1.size
    clear own hb hb1
    have HI : Hid (∀ u, EdgesIn u u.heap.size A1 es → Calls Try.prog 35 #[.agg #[.int .i64 n, .slice A1 es.length c], .int .i64 a, .int .i64 b, .int .i64 t, .int .i64 s] u fun e w' => e = .returned (.bool (pivB n es a b t s)) ∧ Below u.heap.size u w') := fun u h => pivotOk_any n a b t s A1 c es u h hle'
    have HS : Hid (∀ u, EdgesIn u u.heap.size A1 es → Calls Try.prog 36 #[.agg #[.int .i64 n, .slice A1 es.length c], .int .i64 a, .int .i64 b, .int .i64 t, .int .i64 s] u fun e w' => e = .returned (.bool (pivB n es a b t s)) ∧ Below u.heap.size u w') := fun u h => specPivotOk_any n a b t s A1 c es u h hle'
    have HT : Hid (∀ u, EdgesIn u u.heap.size A1 es → Calls Try.prog 37 #[.agg #[.int .i64 n, .slice A1 es.length c], .int .i64 t] u fun e w' => e = .returned (.bool (stateOkB n es t)) ∧ Below u.heap.size u w') := fun u h => specStateOk_any n t A1 c es u h hle'
    cases hst : stateOkB n es t with
    | false =>
      have hv : pivB n es a b t s = false := by unfold pivB; rw [hst]; rfl
      rw [hv] at HI HS
      rw [hst] at HT
      clear hv hst
      have c0 := L1.c0
      have c1 := L1.c1
      go_wp2_with fail
      refine (HI.out _ L1.edges).mono ?_
      rintro e2 w2 ⟨rfl, hb2⟩
      have L2 := L1.step hb2 L1.lt
      clear hb2 L1 c0 c1
      have c0 := L2.c0
      have c1 := L2.c1
      go_wp2_with fail
      refine (HS.out _ L2.edges).mono ?_
      rintro e3 w3 ⟨rfl, hb3⟩
      have L3 := L2.step hb3 L2.lt
      clear hb3 L2 c0 c1
      have c0 := L3.c0
      have c1 := L3.c1
      go_wp2_with fail
      refine (HT.out _ L3.edges).mono ?_
      rintro e4 w4 ⟨rfl, hb4⟩
      have L4 := L3.step hb4 L3.lt
      clear hb4 L3 c0 c1
      have c0 := L4.c0
      have c1 := L4.c1
      go_wp2_with fail
      refine (alive_any _).mono ?_
      rintro e5 w5 ⟨rfl, hb5⟩
      have L5 := L4.step hb5 L4.lt
      go_wp2_with fail
      go_returns
      exact ⟨rfl, HB.out.trans (L5.below.mono s1)⟩
    | true =>
      rw [hst] at HT
      by_cases hs : 0 ≤ s ∧ s < es.length
      · have hs0 := hs.1
        obtain ⟨k, rfl⟩ : ∃ k : Nat, s = k := ⟨s.toNat, by omega⟩
        obtain ⟨S, rfl⟩ : ∃ S : Nat, t = S := ⟨t.toNat, by omega⟩
        have hk : k < es.length := by omega
        have hS9 : S < 512 := by have := (stateOkB_lt hst).2; omega
        have h9 := (netOkB_iff.1 (stateOkB_iff.1 hst).1).2.1
        have hk9 : k < 9 := by omega
        have hq := pivB_with (a := a) (b := b) hst hk
        have hlaw : pivB n es a b (S : Nat) (k : Nat) = true → bitTo (pathsN n es a b) k (pathsN n es a b).length = true ∧ bitTo (cutsN n es a b) k (cutsN n es a b).length = true := fun h => pivB_law h
        have hor := or_set k S hk9 hS9
        have hnd := andNot_clr k S hk9 hS9
        have K1 : Hid (∀ u, EdgesIn u u.heap.size A1 es → Calls Try.prog 35 #[.agg #[.int .i64 n, .slice A1 es.length c], .int .i64 a, .int .i64 b, .int .i64 (clrN k S + 2 ^ k : Nat), .int .i64 (k : Nat)] u fun e w' => e = .returned (.bool (pivB n es a b (clrN k S : Nat) (k : Nat))) ∧ Below u.heap.size u w') := fun u h => by
          rw [← hq]; exact pivotOk_any n a b _ _ A1 c es u h hle'
        have K0 : Hid (∀ u, EdgesIn u u.heap.size A1 es → Calls Try.prog 35 #[.agg #[.int .i64 n, .slice A1 es.length c], .int .i64 a, .int .i64 b, .int .i64 (clrN k S : Nat), .int .i64 (k : Nat)] u fun e w' => e = .returned (.bool (pivB n es a b (clrN k S : Nat) (k : Nat))) ∧ Below u.heap.size u w') := fun u h => pivotOk_any n a b _ _ A1 c es u h hle'
        have HP : Hid (∀ u, EdgesIn u u.heap.size A1 es → Calls Try.prog 38 #[.agg #[.int .i64 n, .slice A1 es.length c], .int .i64 a, .int .i64 b] u (GotInts u (natI (pathsN n es a b)))) := fun u h => pathsOf_any n a b A1 c es u h hle'
        have HC : Hid (∀ u, EdgesIn u u.heap.size A1 es → Calls Try.prog 15 #[.agg #[.int .i64 n, .slice A1 es.length c], .int .i64 a, .int .i64 b] u (GotInts u (natI (cutsN n es a b)))) := fun u h => cutsOf_any n a b A1 c es u h hle'
        have HX : Hid (∀ j, j < (pathsN n es a b).length → (pathsN n es a b).getD j 0 < 512) := fun j hj => pathsN_lt (getD_in hj)
        have HY : Hid (∀ j, j < (cutsN n es a b).length → (cutsN n es a b).getD j 0 < 512) := fun j hj => cutsN_lt (getD_in hj)
        have HLX := pathsN_len n es a b
        have HLY := cutsN_len n es a b
        generalize pathsN n es a b = xs at *
        generalize cutsN n es a b = ys at *
        obtain ⟨m, hm⟩ : ∃ m, xs.length = m := ⟨_, rfl⟩
        obtain ⟨m2, hm2⟩ : ∃ m2, ys.length = m2 := ⟨_, rfl⟩
        rw [hm] at hlaw HX HLX
        rw [hm2] at hlaw HY HLY
        have HM := Lib.hid hm
        have HM2 := Lib.hid hm2
        have HLAW := Lib.hid hlaw
        generalize pivB n es a b (S : Nat) (k : Nat) = V at *
        generalize pivB n es a b (clrN k S : Nat) (k : Nat) = U at *
        obtain ⟨P, hP, p1, p2, hp3, hp4⟩ := pow_named (show k ≤ 9 by omega)
        rw [hP] at hor K1
        rw [hp3] at hor hnd
        generalize clrN k S + P = C1 at *
        generalize clrN k S = C0 at *
        have ik : (k : Int) < (es.length : Int) := by omega
        have dk1 : decide ((k : Int) < 0) = false := decide_eq_false (by omega)
        have dk2 : decide ((es.length : Int) ≤ (k : Int)) = false := decide_eq_false (by omega)
        have dk3 : decide (es.length ≤ k) = false := decide_eq_false (by omega)
        clear hst hq hlaw hm hm2 hP hs hs0 h9 t0 t1 u1 u2
        have c0 := L1.c0
        have c1 := L1.c1
        go_wp2_with fail
        refine (HI.out _ L1.edges).mono ?_
        rintro e2 w2 ⟨rfl, hb2⟩
        have L2 := L1.step hb2 L1.lt
        clear hb2 L1 c0 c1
        have c0 := L2.c0
        have c1 := L2.c1
        go_wp2_with fail
        refine (HS.out _ L2.edges).mono ?_
        rintro e3 w3 ⟨rfl, hb3⟩
        have L3 := L2.step hb3 L2.lt
        clear hb3 L2 c0 c1
        have c0 := L3.c0
        have c1 := L3.c1
        go_wp2_with fail
        refine (HT.out _ L3.edges).mono ?_
        rintro e4 w4 ⟨rfl, hb4⟩
        have L4 := L3.step hb4 L3.lt
        clear hb4 L3 c0 c1
        have c0 := L4.c0
        have c1 := L4.c1
        go_wp2_with fail
        refine (HP.out _ L4.edges).mono ?_
        intro e5 w5 hgot
        obtain ⟨A5, c5, rfl, own5, hc5, hb5⟩ := natI_got hgot
        rw [HM.out] at own5 ⊢
        have L5 := L4.step hb5 L4.lt
        have hx5 := own5.ints
        clear hb5 L4 c0 c1 own5 hc5 hgot
        have c0 := L5.c0
        have c1 := L5.c1
        go_wp2_with fail
        refine (HC.out _ L5.edges).mono ?_
        intro e6 w6 hgot
        obtain ⟨A6, c6, rfl, own6, hc6, hb6⟩ := natI_got hgot
        rw [HM2.out] at own6 ⊢
        have L6 := L5.step hb6 L5.lt
        have hx6 := hx5.below hb6 (Nat.le_refl _)
        have hy6 := own6.ints
        clear hb6 L5 c0 c1 own6 hc6 hgot hx5
        go_wp2_with fail
        go_loopw [9, 13] (fun v t wr => ∃ j : Nat, j ≤ m ∧ v = .bool (bitTo xs k j) ∧ t = .int .i64 (j : Nat) ∧ w6 = wr) (fun _ t _ => m - (intOf t).toNat)
        case atStart => exact ⟨0, by omega, rfl, rfl, rfl⟩
        case round =>
          obtain ⟨j, hj, rfl, rfl, rfl⟩ := hrel
          by_cases hlt : j < m
          · have j1 : j < xs.length := by have := HM.out; omega
            obtain ⟨b0, off, rfl, hbb, gk⟩ := hx6 j _ (natI_at j1)
            have h512 := HX.out j hlt
            have HN : Hid (bitTo xs k (j + 1) = (bitTo xs k j || (xs.getD j 0).testBit k)) := rfl
            have hbv := bit_at (xs.getD j 0) k
            generalize xs.getD j 0 = x at *
            have ij : (j : Int) < (m : Int) := by omega
            cases hv : bitTo xs k j with
            | true =>
              rw [hv] at HN
              have HV : Hid (bitTo xs k (j + 1) = true) := by rw [Hid, HN.out]; rfl
              clear HN hv hbv
              go_wp2_with fail
              go_roundw
              case rel => first
                | exact ⟨j + 1, by omega, by rw [HV.out], by go_num, by first | rfl | trivial⟩
                | ((repeat apply Exists.intro); exact ⟨⟨j + 1, by omega, by rw [HV.out], by go_num, by first | rfl | trivial⟩, rfl⟩)
              case measure => simp [intOf]; omega
            | false =>
              rw [hv] at HN
              cases hb : x.testBit k with
              | true =>
                rw [hb] at HN hbv
                have HV : Hid (bitTo xs k (j + 1) = true) := by rw [Hid, HN.out]; rfl
                have hz1 : ((x : Int) / 2 ^ k).tmod 2 = 1 := by simpa using hbv
                clear HN hv hbv hb
                go_wp2_with fail
                go_roundw
                case rel => first
                  | exact ⟨j + 1, by omega, by rw [HV.out], by go_num, by first | rfl | trivial⟩
                  | ((repeat apply Exists.intro); exact ⟨⟨j + 1, by omega, by rw [HV.out], by go_num, by first | rfl | trivial⟩, rfl⟩)
                case measure => simp [intOf]; omega
              | false =>
                rw [hb] at HN hbv
                have HV : Hid (bitTo xs k (j + 1) = false) := by rw [Hid, HN.out]; rfl
                have hz1 : ((x : Int) / 2 ^ k).tmod 2 = 0 := by simpa using hbv
                clear HN hv hbv hb
                go_wp2_with fail
                go_roundw
                case rel => first
                  | exact ⟨j + 1, by omega, by rw [HV.out], by go_num, by first | rfl | trivial⟩
                  | ((repeat apply Exists.intro); exact ⟨⟨j + 1, by omega, by rw [HV.out], by go_num, by first | rfl | trivial⟩, rfl⟩)
                case measure => simp [intOf]; omega
          · obtain rfl : j = m := by omega
            have HLAW := HLAW
            obtain ⟨BX, hBX⟩ : ∃ BX, bitTo xs k j = BX := ⟨_, rfl⟩
            rw [hBX] at HLAW ⊢
            clear hBX hx6
            go_wp2_with fail
            go_loopw [10, 14] (fun v t wr => ∃ j : Nat, j ≤ m2 ∧ v = .bool (bitTo ys k j) ∧ t = .int .i64 (j : Nat) ∧ w6 = wr) (fun _ t _ => m2 - (intOf t).toNat)
            case atStart => exact ⟨0, by omega, rfl, rfl, rfl⟩
            case round =>
              obtain ⟨j, hj, rfl, rfl, rfl⟩ := hrel
              by_cases hlt : j < m2
              · have j1 : j < ys.length := by have := HM2.out; omega
                obtain ⟨b0, off, rfl, hbb, gk⟩ := hy6 j _ (natI_at j1)
                have h512 := HY.out j hlt
                have HN : Hid (bitTo ys k (j + 1) = (bitTo ys k j || (ys.getD j 0).testBit k)) := rfl
                have hbv := bit_at (ys.getD j 0) k
                generalize ys.getD j 0 = x at *
                have ij : (j : Int) < (m2 : Int) := by omega
                cases hv : bitTo ys k j with
                | true =>
                  rw [hv] at HN
                  have HV : Hid (bitTo ys k (j + 1) = true) := by rw [Hid, HN.out]; rfl
                  clear HN hv hbv
                  go_wp2_with fail
                  go_roundw
                  case rel => first
                    | exact ⟨j + 1, by omega, by rw [HV.out], by go_num, by first | rfl | trivial⟩
                    | ((repeat apply Exists.intro); exact ⟨⟨j + 1, by omega, by rw [HV.out], by go_num, by first | rfl | trivial⟩, rfl⟩)
                  case measure => simp [intOf]; omega
                | false =>
                  rw [hv] at HN
                  cases hb : x.testBit k with
                  | true =>
                    rw [hb] at HN hbv
                    have HV : Hid (bitTo ys k (j + 1) = true) := by rw [Hid, HN.out]; rfl
                    have hz1 : ((x : Int) / 2 ^ k).tmod 2 = 1 := by simpa using hbv
                    clear HN hv hbv hb
                    go_wp2_with fail
                    go_roundw
                    case rel => first
                      | exact ⟨j + 1, by omega, by rw [HV.out], by go_num, by first | rfl | trivial⟩
                      | ((repeat apply Exists.intro); exact ⟨⟨j + 1, by omega, by rw [HV.out], by go_num, by first | rfl | trivial⟩, rfl⟩)
                    case measure => simp [intOf]; omega
                  | false =>
                    rw [hb] at HN hbv
                    have HV : Hid (bitTo ys k (j + 1) = false) := by rw [Hid, HN.out]; rfl
                    have hz1 : ((x : Int) / 2 ^ k).tmod 2 = 0 := by simpa using hbv
                    clear HN hv hbv hb
                    go_wp2_with fail
                    go_roundw
                    case rel => first
                      | exact ⟨j + 1, by omega, by rw [HV.out], by go_num, by first | rfl | trivial⟩
                      | ((repeat apply Exists.intro); exact ⟨⟨j + 1, by omega, by rw [HV.out], by go_num, by first | rfl | trivial⟩, rfl⟩)
                    case measure => simp [intOf]; omega
              · obtain rfl : j = m2 := by omega
                obtain ⟨BY, hBY⟩ : ∃ BY, bitTo ys k j = BY := ⟨_, rfl⟩
                rw [hBY] at HLAW ⊢
                clear hBY hy6
                have hlw : V = false ∨ V = true ∧ BX = true ∧ BY = true := by
                  cases hV : V with
                  | false => exact .inl rfl
                  | true => exact .inr ⟨rfl, HLAW.out hV⟩
                rcases hlw with rfl | ⟨rfl, rfl, rfl⟩
                all_goals
                  cases U
                  all_goals
                    go_wp2_with fail
                    refine wp_region_class (fun u => ArgNet w1 u n A1 c es) (by kernel_rfl) (by kernel_rfl) L6.drew ?_
                    intro X hX f hf hex
                    have k0 : ∀ x, (f x).cell? ⟨w1.heap.size, 0, none⟩ = some (.int .i64 n) := fun x => (hf x).c0
                    have k1 : ∀ x, (f x).cell? ⟨w1.heap.size, 1, none⟩ = some (.slice A1 es.length c) := fun x => (hf x).c1
                    repeat (go_big_quiet_step (first
                      | (go_at_call 35; with_reducible exact class_of hex (K1.out _ (hf _).edges) (hf _).on)
                      | (go_at_call 35; with_reducible exact class_of hex (K0.out _ (hf _).edges) (hf _).on)))
                    refine wpQuiet_nil ?_
                    rintro _ ⟨x, rfl⟩
                    have L7 := hf x
                    go_wp2_with fail
                    go_returns
                    exact ⟨rfl, HB.out.trans (L7.below.mono s1)⟩
      · have hv : pivB n es a b t s = false := by
          unfold pivB pivOkB
          have : atIn es s = false := Bool.eq_false_iff.2 fun h => hs (atIn_iff.1 h)
          rw [this]; simp
        rw [hv] at HI HS
        clear hv hst
        by_cases h0 : s < 0
        · have d0 : decide (s < 0) = true := decide_eq_true h0
          clear hs
          have c0 := L1.c0
          have c1 := L1.c1
          go_wp2_with fail
          refine (HI.out _ L1.edges).mono ?_
          rintro e2 w2 ⟨rfl, hb2⟩
          have L2 := L1.step hb2 L1.lt
          clear hb2 L1 c0 c1
          have c0 := L2.c0
          have c1 := L2.c1
          go_wp2_with fail
          refine (HS.out _ L2.edges).mono ?_
          rintro e3 w3 ⟨rfl, hb3⟩
          have L3 := L2.step hb3 L2.lt
          clear hb3 L2 c0 c1
          have c0 := L3.c0
          have c1 := L3.c1
          go_wp2_with fail
          refine (HT.out _ L3.edges).mono ?_
          rintro e4 w4 ⟨rfl, hb4⟩
          have L4 := L3.step hb4 L3.lt
          clear hb4 L3 c0 c1
          have c0 := L4.c0
          have c1 := L4.c1
          go_wp2_with fail
          refine (alive_any _).mono ?_
          rintro e5 w5 ⟨rfl, hb5⟩
          have L5 := L4.step hb5 L4.lt
          go_wp2_with fail
          go_returns
          exact ⟨rfl, HB.out.trans (L5.below.mono s1)⟩
        · have h1 : (es.length : Int) ≤ s := by omega
          have h2 : ¬ s < (es.length : Int) := by omega
          have d0 : decide (s < 0) = false := decide_eq_false h0
          have d1 : decide ((es.length : Int) ≤ s) = true := decide_eq_true h1
          clear hs
          have c0 := L1.c0
          have c1 := L1.c1
          go_wp2_with fail
          refine (HI.out _ L1.edges).mono ?_
          rintro e2 w2 ⟨rfl, hb2⟩
          have L2 := L1.step hb2 L1.lt
          clear hb2 L1 c0 c1
          have c0 := L2.c0
          have c1 := L2.c1
          go_wp2_with fail
          refine (HS.out _ L2.edges).mono ?_
          rintro e3 w3 ⟨rfl, hb3⟩
          have L3 := L2.step hb3 L2.lt
          clear hb3 L2 c0 c1
          have c0 := L3.c0
          have c1 := L3.c1
          go_wp2_with fail
          refine (HT.out _ L3.edges).mono ?_
          rintro e4 w4 ⟨rfl, hb4⟩
          have L4 := L3.step hb4 L3.lt
          clear hb4 L3 c0 c1
          have c0 := L4.c0
          have c1 := L4.c1
          go_wp2_with fail
          refine (alive_any _).mono ?_
          rintro e5 w5 ⟨rfl, hb5⟩
          have L5 := L4.step hb5 L4.lt
          go_wp2_with fail
          go_returns
          exact ⟨rfl, HB.out.trans (L5.below.mono s1)⟩

namespace fnPivotOk
open Go.ChangeShapes Go.WideShapes Go.ChangeAt Go.RowKit Go.Deep Go.Joins
set_option linter.unusedVariables false
set_option maxRecDepth 100000 in
theorem lifted (os : Os) (started : os.Started) (H : Type) (enc : TypeId × Value → H) :
    ReturnsInHanded {} Try.checked os 10 .any (Rows.fnPivotOkSpec.pre6 enc Try.prog Try.f10 Rows.fnPivotOkRow.domain false) (Rows.fnPivotOkSpec.post enc Try.prog Try.f10 false true false false) := by
  refine returnsInHanded_of_change (C := Try.checked) own started (by kernel_rfl) Try.func10
    (ChangeSpec.witness6 (enc := enc) (C := Try.checked) false ⟨#[], #[.slice none 0 0], []⟩ 8 (by kernel_rfl) (by kernel_rfl) (by kernel_rfl) (by kernel_rfl)) ?_
  intro W base args ds gs before hval0 hW hcnd _
  have hval : ∀ (j : Nat) t v, Try.f10.params[j]? = some t → args[j]? = some v → Value.okWide Try.prog W .any base t v := hval0
  have hW' := hW
  obtain ⟨p, q, hA0, hV, rfl, hfz, hnd⟩ := hW
  have hA : DataW.TrodAll enc Try.prog W 0 (fun _ => true) true Try.f10.params.toList args.toList ds p := hA0
  rw [Try.params10] at hA hval
  obtain ⟨v0, vs0, d0, ds0, p0, q0, hargs, rfl, rfl, h0, r0⟩ := trodAll_cons hA
  obtain ⟨rfl, rfl, rfl⟩ := trodAll_nil r0
  obtain rfl : args = #[v0] := by cases args; simp_all
  obtain ⟨rfl, rfl⟩ := trodVars_none hV
  have k0 := h0
  have lt0 : ∀ x ∈ p0, x.block < W.heap.size := by obtain ⟨m, hm⟩ := k0; exact DataW.trod_lt m _ _ _ hm
  obtain ⟨A0, c0, bs0, rfl, hb0, hl0⟩ := open_bytes (hval 0 37 v0 rfl rfl) h0
  clear hA0 hval0
  refine (pivotOk_law A0 c0 bs0 W hb0 hl0).mono fun e W' ⟨he, bel⟩ => ?_
  subst he
  exact ⟨_, rfl, _, _, _, [], _, [], hW', trodAll_mk1 (shut_bool Try.underlying4 _), (trodAll_cons_mk (Below.trod laidOut (by kernel_rfl) (of_decide_eq_true (by kernel_rfl)) k0 bel lt0) trodAll_mk0), rfl, bel.frame _, fun h => by cases h⟩

theorem holds : Rows.FnPivotOkSaid :=
  OpenClaim.holds_of_wide 10 Try.f10 rfl rfl rfl rfl rfl rfl rfl ⟨rfl, rfl, rfl, rfl, rfl⟩ rfl rfl rfl rfl rfl (by kernel_rfl) Try.func10 (by kernel_rfl)
    (of_decide_eq_true (by kernel_rfl)) (by unfold Func.isWrapper; first | (rw [if_pos (by decide +kernel)]; kernel_rfl) | (rw [if_neg (by decide +kernel)]; exact ⟨rfl, rfl⟩))
    (fun os started H enc _ => lifted os started H enc)
end fnPivotOk
end Go.Proofs.Ytlcgbmeneajfoac
