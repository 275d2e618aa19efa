/- WaysOf, JoinedWays, WholeWays and AllWays of the program. -/
import Derived.Test.YtfflfinhhdhnkabImpl5w
namespace Go.Proofs.Ytfflfinhhdhnkab
open Go.RowKit
set_option maxRecDepth 100000

/-- What weighs a count: so many there, all others not. -/
theorem weigh_any (u : World) (g7 g8 g3 : Nat) (A1 A2 : Option Addr) (c1 c2 l P R k Z : Nat) (h : Weigher u g7 g8 g3 A1 A2 c1 c2 l P R) (hk : k ≤ l) (hl : l ≤ 9) (hZ : P ^ k * R ^ (l - k) = Z) (hZ2 : Z ≤ 1953125) :
    Calls Try.prog 88 #[.int .i64 k, .pointer (some ⟨g7, 0, none⟩), .pointer (some ⟨g8, 0, none⟩), .pointer (some ⟨g3, 0, none⟩)] u fun e w' => e = .returned (.int .i64 (Z : Nat)) ∧ Below u.heap.size u w' := by
  obtain ⟨k3, k7, k8, i1, i2, -, -, -⟩ := h
  obtain ⟨b, off, rfl, hb1, g1⟩ := i1 k _ (pwL_get P l hk)
  obtain ⟨b', off', rfl, hb2, g2⟩ := i2 (l - k) _ (pwL_get R l (Nat.sub_le _ _))
  have hw5 : IntKind.i64.wrap ((l : Int) - (k : Int)) = ((l - k : Nat) : Int) := by rw [IntWalk.i64_in _ (by omega)]; omega
  have hlk : l - k ≤ l := Nat.sub_le _ _
  clear i1 i2
  generalize hU : P ^ k = U at *
  generalize hV : R ^ (l - k) = V at *
  have hw1 : IntKind.i64.wrap ((U : Int) * (V : Int)) = (Z : Int) := by rw [← Int.natCast_mul, hZ]; exact IntWalk.i64_in _ (by omega)
  generalize l - k = j at *
  have ik : (k : Int) < (l : Int) + 1 := by omega
  have ij : (j : Int) < (l : Int) + 1 := by omega
  clear hU hV hZ
  go_enter Try.func88, Try.ntmps88
  go_wp2_with fail
  go_quiet (fail)
  go_wp2_with fail
  go_returns
  exact ⟨by first | rfl | simp, belowN (Below.refl _ _) _⟩

set_option maxHeartbeats 2000000 in
theorem waysOf_any (p m : Int) (A : Option Addr) (c : Nat) (xs : List Int) (w : World) (hxs : IntsIn w w.heap.size A xs) (hl : xs.length ≤ 1048576) :
    Calls Try.prog 33 #[.slice A xs.length c, .int .i64 p, .int .i64 m] w fun e w' => e = .returned (.int .i64 (waysI xs p m)) ∧ Below w.heap.size w w' := by
  cases hc : countsB xs with
  | false =>
    have HV : Hid (waysI xs p m = -1) := if_neg fun h => by rw [waysB_counts, hc] at h; cases h
    have HC := Lib.hid hc
    generalize waysI xs p m = z at *
    clear hc
    go_enter Try.func33, Try.ntmps33
    go_wp2_with fail
    refine (countsOk_any _ _ _ _ hxs hl).mono ?_
    rintro e1 w1 ⟨rfl, rfl⟩
    rw [HC.out]
    go_wp2_with fail
    go_returns
    exact ⟨retI HV.out.symm, Below.refl _ _⟩
  | true =>
    have HC := Lib.hid hc
    cases hch : chanceB p m with
    | false =>
      have HV : Hid (waysI xs p m = -1) := waysI_chance hch
      have HCH := Lib.hid hch
      generalize waysI xs p m = z at *
      clear hc hch
      go_enter Try.func33, Try.ntmps33
      go_wp2_with fail
      refine (countsOk_any _ _ _ _ hxs hl).mono ?_
      rintro e1 w1 ⟨rfl, rfl⟩
      rw [HC.out]
      go_wp2_with fail
      refine (chance_any _ _ _).mono ?_
      rintro e2 w2 ⟨rfl, rfl⟩
      rw [HCH.out]
      go_wp2_with fail
      go_returns
      exact ⟨retI HV.out.symm, Below.refl _ _⟩
    | true =>
      have HCH := Lib.hid hch
      have hwb : waysB xs p m = true := by rw [waysB_counts, hc, hch]; rfl
      obtain ⟨_, hm, hx⟩ := waysB_iff.1 hwb
      have HX := Lib.hid hx
      have HOK : Hid (waysI xs p m = ((wpart (cN xs) (xs.length - 1) p.toNat (m - p).toNat xs.length : Nat) : Int)) := waysI_ok hch hm hx
      obtain ⟨P, hP⟩ : ∃ P : Nat, p = P := ⟨p.toNat, by have := chanceB_iff.1 hch; omega⟩
      obtain ⟨R, hR⟩ : ∃ R : Nat, m - p = R := ⟨(m - p).toNat, by have := chanceB_iff.1 hch; omega⟩
      have hPR : P + R ≤ 5 := by have := chanceB_iff.1 hch; omega
      have e1 : p.toNat = P := by omega
      have e2 : (m - p).toNat = R := by omega
      rw [e1, e2] at HOK
      obtain ⟨l, hl2⟩ : ∃ l, xs.length = l + 1 := ⟨xs.length - 1, by omega⟩
      have hl9 : l ≤ 9 := by omega
      have HW : Hid (∀ u, Calls Try.prog 67 #[.int .i64 l, .int .i64 p, .int .i64 m] u (GotWeigher u l P R)) := fun u => weighing_any l P R hl9 (by omega) (by omega) p m hP hR u
      rw [hl2, Nat.add_sub_cancel] at HOK
      have hw4 : IntKind.i64.wrap ((l : Int) + 1 - 1) = (l : Int) := by rw [IntWalk.i64_in _ (by omega)]; omega
      have HCO : Hid (∀ u, IntsIn u u.heap.size A xs → Calls Try.prog 65 #[.slice A (l + 1) c] u fun e w' => e = .returned (.bool true) ∧ u = w') := fun u hu => by
        have := countsOk_any A c xs u hu hl
        rw [HC.out, hl2] at this; exact this
      have HLN := Lib.hid hl2
      rw [hl2]
      clear hc hch hwb hm hx e1 e2 hl hl2 hP hR HC
      generalize waysI xs p m = z at *
      go_enter Try.func33, Try.ntmps33
      go_wp2_with fail
      refine (HCO.out _ hxs).mono ?_
      rintro e1 w1 ⟨rfl, rfl⟩
      go_wp2_with fail
      refine (chance_any _ _ _).mono ?_
      rintro e2 w2 ⟨rfl, rfl⟩
      rw [HCH.out]
      go_wp2_with fail
      refine (HW.out _).mono ?_
      rintro e3 w3 ⟨g7, g8, g3, A1, A2, c1, c2, rfl, W3, hb3⟩
      go_wp2_with fail
      go_loopw [8, 28] (fun v i wr => ∃ (k S : Nat), k ≤ l + 1 ∧ i = .int .i64 (k : Nat) ∧ v = .int .i64 (S : Nat) ∧ Hid (wpart (cN xs) l P R k = S) ∧ S ≤ k * 1953125000 ∧ Weigher wr g7 g8 g3 A1 A2 c1 c2 l P R ∧ Below w.heap.size w wr) (fun _ i _ => l + 1 - (intOf i).toNat)
      case atStart => exact ⟨0, 0, by omega, rfl, rfl, rfl, by omega, W3, hb3⟩
      case round =>
        obtain ⟨k, S, hk, rfl, rfl, HS, hS, WR, hb⟩ := hrel
        by_cases hlt : k < l + 1
        · have k1 : k < xs.length := by have := HLN.out; omega
          obtain ⟨b, off, rfl, hbb, g1⟩ := (hxs.below hb (Nat.le_refl _)) k _ (ints_at k1)
          have hx := HX.out k k1
          have hcn : cN xs k = (xs.getD k 0).toNat := rfl
          have hnext := wpart_next (cN xs) l P R k
          rw [HS.out, hcn] at hnext
          have ik : (k : Int) < (l : Int) + 1 := by omega
          generalize xs.getD k 0 = x at *
          obtain ⟨X, rfl⟩ : ∃ X : Nat, x = X := ⟨x.toNat, by omega⟩
          have hX : X ≤ 1000 := by omega
          rw [show ((X : Nat) : Int).toNat = X from rfl, Nat.mul_assoc] at hnext
          have hZ2 : P ^ k * R ^ (l - k) ≤ 1953125 := pw_two hPR (by omega) hl9
          obtain ⟨Z, hZ⟩ : ∃ Z, P ^ k * R ^ (l - k) = Z := ⟨_, rfl⟩
          rw [hZ] at hnext hZ2
          have ht : X * Z ≤ 1000 * 1953125 := Nat.mul_le_mul hX hZ2
          have HZ : Hid (∀ u, Weigher u g7 g8 g3 A1 A2 c1 c2 l P R → Calls Try.prog 88 #[.int .i64 k, .pointer (some ⟨g7, 0, none⟩), .pointer (some ⟨g8, 0, none⟩), .pointer (some ⟨g3, 0, none⟩)] u fun e w' => e = .returned (.int .i64 (Z : Nat)) ∧ Below u.heap.size u w') :=
            fun u hu => weigh_any u g7 g8 g3 A1 A2 c1 c2 l P R k Z hu (by omega) hl9 hZ hZ2
          have hw1 : IntKind.i64.wrap ((X : Int) * (Z : Int)) = ((X * Z : Nat) : Int) := by rw [← Int.natCast_mul]; exact IntWalk.i64_in _ (by omega)
          have hw3 : IntKind.i64.wrap ((S : Int) + ((X * Z : Nat) : Int)) = ((S + X * Z : Nat) : Int) := by rw [IntWalk.i64_in _ (by omega)]; omega
          have HN := Lib.hid hnext
          have hS2 : S + X * Z ≤ (k + 1) * 1953125000 := by omega
          clear hnext hZ hcn ht hZ2 hx hPR
          generalize X * Z = Y at *
          go_wp2_with fail
          refine (HZ.out _ WR).mono ?_
          rintro e4 w4 ⟨rfl, hb4⟩
          have WR4 := WR.later hb4
          have BB4 := hb.trans (hb4.mono hb.size)
          go_wp2_with fail
          go_roundw
          case rel => exact ⟨k + 1, S + Y, by omega, by go_num, by go_num, HN.out, hS2, WR4, BB4⟩
          case measure => simp [intOf]; omega
        · obtain rfl : k = l + 1 := by omega
          have HZ : Hid (z = ((S : Nat) : Int)) := by rw [Hid, HOK.out, HS.out]
          go_wp2_with fail
          go_returns
          exact ⟨retI HZ.out.symm, hb⟩

theorem joinedWays_any (n a b p m : Int) (A : Option Addr) (cap : Nat) (es : List (Int × Int)) (w : World) (hes : EdgesIn w w.heap.size A es) (hl : es.length ≤ 1048576) :
    Calls Try.prog 10 #[.agg #[.int .i64 n, .slice A es.length cap], .int .i64 a, .int .i64 b, .int .i64 p, .int .i64 m] w fun e w' => e = .returned (.int .i64 (waysI (joiningL n es a b) p m)) ∧ Below w.heap.size w w' := by
  have L0 := ArgNet.start (cap := cap) (n := n) 25 hes
  have hx := joiningL_le n es a b
  have HC : Hid (∀ u, EdgesIn u u.heap.size A es → Calls Try.prog 26 #[.agg #[.int .i64 n, .slice A es.length cap], .int .i64 a, .int .i64 b] u (GotInts u (joiningL n es a b))) := fun u hu => joiningCounts_any n a b A cap es u hu hl
  generalize joiningL n es a b = xs at *
  obtain ⟨_, _, c0, c1, s0⟩ := id L0
  go_enter Try.func10, Try.ntmps10
  go_wp2_with fail
  refine (HC.out _ L0.edges).mono ?_
  rintro e1 w1 ⟨A1, k1, rfl, own1, hb1⟩
  have L1 := L0.step hb1 L0.lt
  clear hb1 L0 c0 c1 s0
  go_wp2_with fail
  refine (waysOf_any p m A1 k1 xs w1 own1.ints (by omega)).mono ?_
  rintro e2 w2 ⟨rfl, hb2⟩
  have L2 := L1.step hb2 L1.lt
  go_wp2_with fail
  go_returns
  exact ⟨rfl, L2.below⟩

theorem wholeWays_any (n p m : Int) (A : Option Addr) (cap : Nat) (es : List (Int × Int)) (w : World) (hes : EdgesIn w w.heap.size A es) (hl : es.length ≤ 1048576) :
    Calls Try.prog 15 #[.agg #[.int .i64 n, .slice A es.length cap], .int .i64 p, .int .i64 m] w fun e w' => e = .returned (.int .i64 (waysI (wholeL n es) p m)) ∧ Below w.heap.size w w' := by
  have L0 := ArgNet.start (cap := cap) (n := n) 25 hes
  have hx := wholeL_le n es
  have HC : Hid (∀ u, EdgesIn u u.heap.size A es → Calls Try.prog 40 #[.agg #[.int .i64 n, .slice A es.length cap]] u (GotInts u (wholeL n es))) := fun u hu => wholeCounts_any n A cap es u hu hl
  generalize wholeL n es = xs at *
  obtain ⟨_, _, c0, c1, s0⟩ := id L0
  go_enter Try.func15, Try.ntmps15
  go_wp2_with fail
  refine (HC.out _ L0.edges).mono ?_
  rintro e1 w1 ⟨A1, k1, rfl, own1, hb1⟩
  have L1 := L0.step hb1 L0.lt
  clear hb1 L0 c0 c1 s0
  go_wp2_with fail
  refine (waysOf_any p m A1 k1 xs w1 own1.ints (by omega)).mono ?_
  rintro e2 w2 ⟨rfl, hb2⟩
  have L2 := L1.step hb2 L1.lt
  go_wp2_with fail
  go_returns
  exact ⟨rfl, L2.below⟩

theorem allWays_any (n m : Int) (A : Option Addr) (cap : Nat) (es : List (Int × Int)) (w : World) (hes : EdgesIn w w.heap.size A es) (hl : es.length ≤ 1048576) :
    Calls Try.prog 13 #[.agg #[.int .i64 n, .slice A es.length cap], .int .i64 m] w fun e w' => e = .returned (.int .i64 (allI n es m)) ∧ Below w.heap.size w w' := by
  have L0 := ArgNet.start (cap := cap) (n := n) 25 hes
  obtain ⟨_, _, c0, c1, s0⟩ := id L0
  by_cases hn : netOkB n es = true
  · have HN := Lib.hid hn
    by_cases hm : 1 ≤ m ∧ m ≤ 5
    · obtain ⟨M, rfl⟩ : ∃ M : Nat, m = M := ⟨m.toNat, by omega⟩
      have HV : Hid (allI n es M = ((M ^ es.length : Nat) : Int)) := allI_ok hn hm
      have h9 := (netOkB_iff.1 hn).2.1
      have HD : Hid (decide ((1 : Int) ≤ (M : Int) ∧ (M : Int) ≤ 5) = true) := by simpa [Hid] using hm
      have hM : M ≤ 5 := by omega
      have HP : Hid (∀ v, Calls Try.prog 38 #[.int .i64 M, .int .i64 es.length] v (GotInts v (pwL M es.length))) := fun v => powersOf_any M es.length hM h9 v
      have HG := Lib.hid (pwL_get M es.length (Nat.le_refl _))
      have hln := pwL_length M es.length
      have i1 : (es.length : Int) < (es.length : Int) + 1 := by omega
      generalize pwL M es.length = xs at *
      generalize M ^ es.length = Z at *
      generalize allI n es M = z at *
      clear hm hn
      go_enter Try.func13, Try.ntmps13
      go_wp2_with fail
      refine (netOk_any _ _ _ _ _ L0.edges hl).mono ?_
      rintro e1 w1 ⟨rfl, hb1⟩
      rw [HN.out]
      have L1 := L0.step hb1 L0.lt
      clear hb1 L0 c0 c1 s0
      obtain ⟨_, _, c0, c1, s0⟩ := id L1
      go_wp2_with fail
      refine (allParts_any _ _).mono ?_
      rintro e2 w2 ⟨rfl, rfl⟩
      rw [HD.out]
      go_wp2_with fail
      refine (HP.out _).mono ?_
      rintro e3 w3 ⟨A3, k3, rfl, own3, hb3⟩
      have L3 := L1.step hb3 L1.lt
      obtain ⟨b, off, rfl, hbb, g1⟩ := own3.ints es.length _ HG.out
      clear hb3 L1 c0 c1 s0
      rw [hln]
      go_wp2_with fail
      go_returns
      exact ⟨retI HV.out.symm, L3.below⟩
    · have HV : Hid (allI n es m = -1) := if_neg fun h => hm h.2
      have HD : Hid (decide ((1 : Int) ≤ m ∧ m ≤ 5) = false) := by simpa [Hid] using hm
      generalize allI n es m = z at *
      clear hm hn
      go_enter Try.func13, Try.ntmps13
      go_wp2_with fail
      refine (netOk_any _ _ _ _ _ L0.edges hl).mono ?_
      rintro e1 w1 ⟨rfl, hb1⟩
      rw [HN.out]
      have L1 := L0.step hb1 L0.lt
      clear hb1 L0 c0 c1 s0
      obtain ⟨_, _, c0, c1, s0⟩ := id L1
      go_wp2_with fail
      refine (allParts_any _ _).mono ?_
      rintro e2 w2 ⟨rfl, rfl⟩
      rw [HD.out]
      go_wp2_with fail
      go_returns
      exact ⟨retI HV.out.symm, L1.below⟩
  · have HV : Hid (allI n es m = -1) := if_neg fun h => hn h.1
    have HN : Hid (netOkB n es = false) := by simpa [Hid] using hn
    generalize allI n es m = z at *
    clear hn
    go_enter Try.func13, Try.ntmps13
    go_wp2_with fail
    refine (netOk_any _ _ _ _ _ L0.edges hl).mono ?_
    rintro e1 w1 ⟨rfl, hb1⟩
    rw [HN.out]
    have L1 := L0.step hb1 L0.lt
    go_wp2_with fail
    go_returns
    exact ⟨retI HV.out.symm, L1.below⟩
end Go.Proofs.Ytfflfinhhdhnkab
