/- Chances of the reference: ChanceOk, l5Power, WaysOf, JoinedWays, WholeWays, AllWays. -/
import Derived.Test.YtfflfinhhdhnkabChance
import Derived.Test.YtfflfinhhdhnkabSpecCnt
namespace Go.Proofs.Ytfflfinhhdhnkab
open Go.RowKit
set_option maxRecDepth 100000

theorem specChance_any (p m : Int) (w : World) :
    Calls Try.prog 68 #[.int .i64 p, .int .i64 m] w fun e w' => e = .returned (.bool (chanceB p m)) ∧ w = w' := by
  by_cases h : 1 ≤ m ∧ m ≤ 5
  · have h1 : (decide ((1 : Int) ≤ m) && decide (m ≤ 5)) = true := by simp; omega
    have h2 : chanceB p m = (decide ((0 : Int) ≤ p) && decide (p ≤ m)) := by
      rw [Bool.eq_iff_iff, chanceB_iff]; simp; omega
    have H1 := Lib.hid h1
    rw [h2]
    clear h1 h2 h
    go_enter Try.func68, Try.ntmps68
    go_wp2_with fail
    refine (l1In_any _ _ _ _).mono ?_
    rintro e1 w1 ⟨rfl, rfl⟩
    rw [H1.out]
    go_wp2_with fail
    refine (l1In_any _ _ _ _).mono ?_
    rintro e2 w2 ⟨rfl, rfl⟩
    go_wp2_with fail
    go_returns
    exact ⟨rfl, rfl⟩
  · have h1 : (decide ((1 : Int) ≤ m) && decide (m ≤ 5)) = false := by simp; omega
    have h2 : chanceB p m = false := chanceB_not.2 (by omega)
    have H1 := Lib.hid h1
    rw [h2]
    clear h1 h2 h
    go_enter Try.func68, Try.ntmps68
    go_wp2_with fail
    refine (l1In_any _ _ _ _).mono ?_
    rintro e1 w1 ⟨rfl, rfl⟩
    rw [H1.out]
    go_wp2_with fail
    go_returns
    exact ⟨rfl, rfl⟩
theorem specChance_is (p m : Int) (b : Bool) (h : chanceB p m = b) (w : World) :
    Calls Try.prog 68 #[.int .i64 p, .int .i64 m] w fun e w' => e = .returned (.bool b) ∧ w = w' := h ▸ specChance_any p m w

theorem specPower_any (x k : Nat) (hx : x ≤ 5) (hk : k ≤ 9) (w : World) :
    Calls Try.prog 69 #[.int .i64 x, .int .i64 k] w fun e w' => e = .returned (.int .i64 ((x ^ k : Nat) : Int)) ∧ w = w' := by
  obtain ⟨Z, hZ⟩ : ∃ Z, x ^ k = Z := ⟨_, rfl⟩
  have HZ := Lib.hid hZ
  rw [hZ]
  clear hZ
  go_enter Try.func69, Try.ntmps69
  go_wp2_with fail
  go_loopw [5, 6] (fun v i wr => ∃ (j Y : Nat), j ≤ k ∧ i = .int .i64 j ∧ v = .int .i64 Y ∧ Hid (x ^ j = Y) ∧ Y ≤ 1953125 ∧ wr = w) (fun _ i _ => k - (intOf i).toNat)
  case atStart => exact ⟨0, 1, by omega, rfl, rfl, rfl, by omega, rfl⟩
  case round =>
    obtain ⟨j, Y, hj, rfl, rfl, HY, hY, rfl⟩ := hrel
    by_cases hlt : j < k
    · have hs : Hid (x ^ (j + 1) = Y * x) := by rw [Hid, Nat.pow_succ, HY.out]
      have hb : Y * x ≤ 1953125 := by rw [← hs.out]; exact pw_bound hx (by omega)
      have hw1 : IntKind.i64.wrap ((Y : Int) * (x : Int)) = ((Y * x : Nat) : Int) := by rw [← Int.natCast_mul]; exact IntWalk.i64_in _ (by omega)
      have hw2 : wrap64 ((Y : Int) * (x : Int)) = ((Y * x : Nat) : Int) := by rw [← Int.natCast_mul]; unfold wrap64; omega
      go_wp2_with fail
      go_roundw
      case rel => exact ⟨j + 1, Y * x, by omega, by go_num, by first | rfl | (congr 1; done) | go_num, hs, hb, by first | rfl | trivial⟩
      case measure => simp [intOf]; omega
    · obtain rfl : j = k := by omega
      have : Y = Z := by rw [← HY.out, HZ.out]
      subst this
      go_wp2_with fail
      go_returns
      exact ⟨rfl, rfl⟩
theorem specPower_is (x k Z : Nat) (h : x ^ k = Z) (hx : x ≤ 5) (hk : k ≤ 9) (w : World) :
    Calls Try.prog 69 #[.int .i64 x, .int .i64 k] w fun e w' => e = .returned (.int .i64 (Z : Nat)) ∧ w = w' := h ▸ specPower_any x k hx hk w

/-- A callee that turns nothing, in a region that draws. -/
theorem quiet_same {P : Program} {w : World} {n : Nat} {fn : FuncId} {args : Array Value} {v : Value} (h : Calls P fn args (w.drewN n) fun e w' => e = .returned v ∧ w.drewN n = w') :
    Calls P fn args (w.drewN n) fun e w' => e = .returned v ∧ ∃ m, w' = w.drewN m := h.mono fun _ _ ⟨he, hb⟩ => ⟨he, n, hb.symm⟩

set_option maxHeartbeats 4000000 in
theorem specWays_any (p m : Int) (A : Option Addr) (c : Nat) (xs : List Int) (w : World) (hxs : IntsIn w w.heap.size A xs) (hl : xs.length ≤ 1048576) :
    Calls Try.prog 34 #[.slice A xs.length c, .int .i64 p, .int .i64 m] w fun e w' => e = .returned (.int .i64 (waysI xs p m)) ∧ Below w.heap.size w w' := by
  have low : ∀ n : Nat, (decide ((1 : Int) ≤ (n : Int)) && decide ((n : Int) ≤ 10)) = decide (1 ≤ n ∧ n ≤ 10) := fun n => by
    rw [Bool.eq_iff_iff]; simp; omega
  cases hc : chanceB p m with
  | false =>
    have HV : Hid (waysI xs p m = -1) := waysI_chance hc
    have HC := Lib.hid hc
    generalize waysI xs p m = z at *
    clear hc
    go_enter Try.func34, Try.ntmps34
    go_wp2_with fail
    refine (specChance_is _ _ _ HC.out _).mono ?_
    rintro e1 w1 ⟨rfl, rfl⟩
    go_wp2_with fail
    go_returns
    exact ⟨retI HV.out.symm, Below.refl _ _⟩
  | true =>
    have HC := Lib.hid hc
    by_cases hm : 1 ≤ xs.length ∧ xs.length ≤ 10
    · have HM := Lib.hid (show decide (1 ≤ xs.length ∧ xs.length ≤ 10) = true by simpa using hm)
      have HOK : Hid ((∀ k, k < xs.length → 0 ≤ xs.getD k 0 ∧ xs.getD k 0 ≤ 1000) → waysI xs p m = ((wpart (cN xs) (xs.length - 1) p.toNat (m - p).toNat xs.length : Nat) : Int)) := waysI_ok hc hm
      have HBAD : Hid (∀ k, k < xs.length → ¬ (0 ≤ xs.getD k 0 ∧ xs.getD k 0 ≤ 1000) → waysI xs p m = -1) := fun k h1 h2 => waysI_bad h1 h2
      obtain ⟨P, hP⟩ : ∃ P : Nat, p = P := ⟨p.toNat, by have := chanceB_iff.1 hc; omega⟩
      obtain ⟨R, hR⟩ : ∃ R : Nat, m - p = R := ⟨(m - p).toNat, by have := chanceB_iff.1 hc; omega⟩
      have hPR : P + R ≤ 5 := by have := chanceB_iff.1 hc; omega
      have e1 : p.toNat = P := by omega
      have e2 : (m - p).toNat = R := by omega
      rw [e1, e2] at HOK
      obtain ⟨l, hl2⟩ : ∃ l, xs.length = l + 1 := ⟨xs.length - 1, by omega⟩
      have hwr : IntKind.i64.wrap (m - p) = (R : Int) := by rw [hR]; exact IntWalk.i64_in _ (by omega)
      have hl9 : l ≤ 9 := by omega
      rw [hl2] at HM HOK HBAD ⊢
      have HLN := Lib.hid hl2
      have hlow := Lib.hid (low (l + 1))
      rw [Nat.add_sub_cancel] at HOK
      clear hc hm e1 e2 hl hl2 hR low
      subst hP
      generalize waysI xs (P : Int) m = z at *
      go_enter Try.func34, Try.ntmps34
      go_wp2_with fail
      refine (specChance_is _ _ _ HC.out _).mono ?_
      rintro e1 w1 ⟨rfl, rfl⟩
      go_wp2_with fail
      refine (l1In_any _ _ _ _).mono ?_
      rintro e2 w2 ⟨rfl, rfl⟩
      first | rw [hlow.out, HM.out] | rw [show ((l : Int) + 1) = ((l + 1 : Nat) : Int) by omega, hlow.out, HM.out]
      go_wp2_with fail
      go_loopw [7, 8] (fun v i wr => ∃ (k S : Nat), k ≤ l + 1 ∧ i = .int .i64 (k : Nat) ∧ v = .int .i64 (S : Nat) ∧ Hid (wpart (cN xs) l P R k = S) ∧ S ≤ k * 1953125000 ∧ Hid (∀ j, j < k → 0 ≤ xs.getD j 0 ∧ xs.getD j 0 ≤ 1000) ∧ Below w.heap.size w wr) (fun _ i _ => l + 1 - (intOf i).toNat)
      case atStart => exact ⟨0, 0, by omega, rfl, rfl, rfl, by omega, fun j hj => by omega, Below.refl _ _⟩
      case round =>
        obtain ⟨k, S, hk, rfl, rfl, HS, hS, HG, hb⟩ := hrel
        by_cases hlt : k < l + 1
        · have k1 : k < xs.length := by have := HLN.out; omega
          obtain ⟨b, off, rfl, hbb, g1⟩ := (hxs.below hb (Nat.le_refl _)) k _ (ints_at k1)
          have HB := Lib.hid (HBAD.out k hlt)
          have hcn : cN xs k = (xs.getD k 0).toNat := rfl
          have HGN : Hid ((0 ≤ xs.getD k 0 ∧ xs.getD k 0 ≤ 1000) → ∀ j, j < k + 1 → 0 ≤ xs.getD j 0 ∧ xs.getD j 0 ≤ 1000) := fun h j hj => by
            by_cases e : j = k
            · subst e; exact h
            · exact HG.out j (by omega)
          have hnext := wpart_next (cN xs) l P R k
          rw [HS.out, hcn] at hnext
          have ik : (k : Int) < (l : Int) + 1 := by omega
          generalize xs.getD k 0 = x at *
          by_cases hx : 0 ≤ x ∧ x ≤ 1000
          · obtain ⟨X, rfl⟩ : ∃ X : Nat, x = X := ⟨x.toNat, by omega⟩
            have hX : X ≤ 1000 := by omega
            rw [show ((X : Nat) : Int).toNat = X from rfl] at hnext
            have ht := term_small (c := X) (k := k) hX hl9 hPR (by omega)
            have hp5 : P ≤ 5 := by omega
            have hr5 : R ≤ 5 := by omega
            have hk9 : k ≤ 9 := by omega
            have hk9' : l - k ≤ 9 := by omega
            have hb1 := pw_bound hp5 hk9
            have hb2 := pw_bound hr5 hk9'
            obtain ⟨U, hU⟩ : ∃ U, P ^ k = U := ⟨_, rfl⟩
            obtain ⟨V, hV⟩ : ∃ V, R ^ (l - k) = V := ⟨_, rfl⟩
            have HU : Hid (∀ v, Calls Try.prog 69 #[.int .i64 P, .int .i64 k] v fun e w' => e = .returned (.int .i64 (U : Nat)) ∧ v = w') := fun v => specPower_is P k U hU hp5 hk9 v
            have HV : Hid (∀ v, Calls Try.prog 69 #[.int .i64 R, .int .i64 ((l - k : Nat) : Int)] v fun e w' => e = .returned (.int .i64 (V : Nat)) ∧ v = w') := fun v => specPower_is R (l - k) V hV hr5 hk9' v
            rw [hU, hV] at ht hnext
            rw [hU] at hb1
            rw [hV] at hb2
            have HXG := Lib.hid (HGN.out ⟨by omega, by omega⟩)
            have hw1 : IntKind.i64.wrap ((X : Int) * (U : Int)) = ((X * U : Nat) : Int) := by rw [← Int.natCast_mul]; exact IntWalk.i64_in _ (by omega)
            have hw2 : IntKind.i64.wrap (((X * U : Nat) : Int) * (V : Int)) = ((X * U * V : Nat) : Int) := by rw [← Int.natCast_mul]; exact IntWalk.i64_in _ (by omega)
            have hw3 : IntKind.i64.wrap ((S : Int) + ((X * U * V : Nat) : Int)) = ((S + X * U * V : Nat) : Int) := by rw [IntWalk.i64_in _ (by omega)]; omega
            have hw4 : IntKind.i64.wrap ((l : Int) + 1 - 1) = (l : Int) := by rw [IntWalk.i64_in _ (by omega)]; omega
            have hw5 : IntKind.i64.wrap ((l : Int) - (k : Int)) = ((l - k : Nat) : Int) := by rw [IntWalk.i64_in _ (by omega)]; omega
            have HN := Lib.hid hnext
            have hS2 : S + X * U * V ≤ (k + 1) * 1953125000 := by omega
            clear hnext hU hV hcn HB HGN HG ht hb1 hb2 hx
            generalize X * U * V = Y at *
            generalize X * U = Y2 at *
            generalize l - k = lk at *
            go_wp2_with fail
            refine (l1In_any _ _ _ _).mono ?_
            rintro e2 w2 ⟨rfl, rfl⟩
            rw [show (decide ((0 : Int) ≤ (X : Nat)) && decide (((X : Nat) : Int) ≤ 1000)) = true by simp; omega]
            go_wp2_with fail
            go_quiet (first | (go_at_call 69; with_reducible exact quiet_same (HU.out _)) | (go_at_call 69; with_reducible exact quiet_same (HV.out _)))
            go_wp2_with fail
            go_roundw
            case rel => exact ⟨k + 1, S + Y, by omega, by go_num, by go_num, HN.out, hS2, HXG.out, belowN hb _⟩
            case measure => simp [intOf]; omega
          · have HZ := Lib.hid (HB.out hx)
            have hd : (decide ((0 : Int) ≤ x) && decide (x ≤ 1000)) = false := by simp; omega
            clear hnext hcn HB HGN HG hx
            go_wp2_with fail
            refine (l1In_any _ _ _ _).mono ?_
            rintro e2 w2 ⟨rfl, rfl⟩
            rw [hd]
            go_wp2_with fail
            go_returns
            exact ⟨retI HZ.out.symm, hb⟩
        · obtain rfl : k = l + 1 := by omega
          have HZ : Hid (z = ((S : Nat) : Int)) := by
            have := HOK.out HG.out
            rw [HS.out] at this; exact this
          go_wp2_with fail
          go_returns
          exact ⟨retI HZ.out.symm, hb⟩
    · have HV : Hid (waysI xs p m = -1) := waysI_len hm
      have HM : Hid ((decide ((1 : Int) ≤ (xs.length : Int)) && decide ((xs.length : Int) ≤ 10)) = false) := by
        rw [Hid, low]; simpa using hm
      generalize waysI xs p m = z at *
      clear hc hm low
      go_enter Try.func34, Try.ntmps34
      go_wp2_with fail
      refine (specChance_is _ _ _ HC.out _).mono ?_
      rintro e1 w1 ⟨rfl, rfl⟩
      go_wp2_with fail
      refine (l1In_any _ _ _ _).mono ?_
      rintro e2 w2 ⟨rfl, rfl⟩
      rw [HM.out]
      go_wp2_with fail
      go_returns
      exact ⟨retI HV.out.symm, Below.refl _ _⟩

theorem specJoinedWays_any (n a b p m : Int) (A : Option Addr) (cap : Nat) (es : List (Int × Int)) (w : World) (hes : EdgesIn w w.heap.size A es) (hl : es.length ≤ 1048576) :
    Calls Try.prog 11 #[.agg #[.int .i64 n, .slice A es.length cap], .int .i64 a, .int .i64 b, .int .i64 p, .int .i64 m] w fun e w' => e = .returned (.int .i64 (waysI (joiningL n es a b) p m)) ∧ Below w.heap.size w w' := by
  have L0 := ArgNet.start (cap := cap) (n := n) 25 hes
  have hx := joiningL_le n es a b
  have HC : Hid (∀ u, EdgesIn u u.heap.size A es → Calls Try.prog 35 #[.agg #[.int .i64 n, .slice A es.length cap], .int .i64 a, .int .i64 b] u (GotInts u (joiningL n es a b))) := fun u hu => specJoiningCounts_any n a b A cap es u hu hl
  generalize joiningL n es a b = xs at *
  obtain ⟨_, _, c0, c1, s0⟩ := id L0
  go_enter Try.func11, Try.ntmps11
  go_wp2_with fail
  refine (HC.out _ L0.edges).mono ?_
  rintro e1 w1 ⟨A1, k1, rfl, own1, hb1⟩
  have L1 := L0.step hb1 L0.lt
  clear hb1 L0 c0 c1 s0
  go_wp2_with fail
  refine (specWays_any p m A1 k1 xs w1 own1.ints (by omega)).mono ?_
  rintro e2 w2 ⟨rfl, hb2⟩
  have L2 := L1.step hb2 L1.lt
  go_wp2_with fail
  go_returns
  exact ⟨rfl, L2.below⟩

theorem specWholeWays_any (n p m : Int) (A : Option Addr) (cap : Nat) (es : List (Int × Int)) (w : World) (hes : EdgesIn w w.heap.size A es) (hl : es.length ≤ 1048576) :
    Calls Try.prog 16 #[.agg #[.int .i64 n, .slice A es.length cap], .int .i64 p, .int .i64 m] w fun e w' => e = .returned (.int .i64 (waysI (wholeL n es) p m)) ∧ Below w.heap.size w w' := by
  have L0 := ArgNet.start (cap := cap) (n := n) 25 hes
  have hx := wholeL_le n es
  have HC : Hid (∀ u, EdgesIn u u.heap.size A es → Calls Try.prog 41 #[.agg #[.int .i64 n, .slice A es.length cap]] u (GotInts u (wholeL n es))) := fun u hu => specWholeCounts_any n A cap es u hu hl
  generalize wholeL n es = xs at *
  obtain ⟨_, _, c0, c1, s0⟩ := id L0
  go_enter Try.func16, Try.ntmps16
  go_wp2_with fail
  refine (HC.out _ L0.edges).mono ?_
  rintro e1 w1 ⟨A1, k1, rfl, own1, hb1⟩
  have L1 := L0.step hb1 L0.lt
  clear hb1 L0 c0 c1 s0
  go_wp2_with fail
  refine (specWays_any p m A1 k1 xs w1 own1.ints (by omega)).mono ?_
  rintro e2 w2 ⟨rfl, hb2⟩
  have L2 := L1.step hb2 L1.lt
  go_wp2_with fail
  go_returns
  exact ⟨rfl, L2.below⟩

end Go.Proofs.Ytfflfinhhdhnkab
