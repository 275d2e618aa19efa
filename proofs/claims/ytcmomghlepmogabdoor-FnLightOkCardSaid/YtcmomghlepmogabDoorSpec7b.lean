/- Boards of the reference: sides, TouchOk, DarkOk, LightOk, CountDark. -/
import Derived.Test.YtcmomghlepmogabDoorSpec7
import Derived.Test.YtcmomghlepmogabDoorTab7
import Derived.BigQuiet
import Derived.BigRegion
namespace Go.Proofs.YtcmomghlepmogabDoor
open Go.RowKit
set_option maxRecDepth 100000

theorem side_col : ∀ c, c < 5 → ∀ k, k < 3 → 1 ≤ c → (colL c k ||| 2 ^ (k * c) = colL c (k + 1)) ∧ (colL c k * 2 ^ (c - 1) ||| 2 ^ (k * c + c - 1) = colL c (k + 1) * 2 ^ (c - 1)) ∧ colL c k < 4096 ∧ colL c k * 2 ^ (c - 1) < 4096 := by decide +kernel
theorem side_row : ∀ c, c < 5 → ∀ q, q < 3 → ∀ k, k < c → ((2 ^ k - 1) ||| 2 ^ k = 2 ^ (k + 1) - 1) ∧ ((2 ^ k - 1) * 2 ^ (q * c) ||| 2 ^ (k + q * c) = (2 ^ (k + 1) - 1) * 2 ^ (q * c)) ∧ 2 ^ k - 1 < 4096 ∧ (2 ^ k - 1) * 2 ^ (q * c) < 4096 := by decide +kernel

set_option maxHeartbeats 4000000 in
theorem l7Sides_any (c r : Nat) (hc : 1 ≤ c ∧ c ≤ 4) (hr : 1 ≤ r ∧ r ≤ 3) (w : World) :
    Calls Tryd.prog 39 #[.int .i64 c, .int .i64 r] w (GotInts w [(colL c r : Int), (colR c r : Int), (rowLow c : Int), (rowHigh c r : Int)]) := by
  have HC : Hid (∀ k, k < r → (colL c k ||| 2 ^ (k * c) = colL c (k + 1)) ∧ (colL c k * 2 ^ (c - 1) ||| 2 ^ (k * c + c - 1) = colL c (k + 1) * 2 ^ (c - 1)) ∧ colL c k < 4096 ∧ colL c k * 2 ^ (c - 1) < 4096) := fun k hk => side_col c (by omega) k (by omega) hc.1
  have HR : Hid (∀ k, k < c → ((2 ^ k - 1) ||| 2 ^ k = 2 ^ (k + 1) - 1) ∧ ((2 ^ k - 1) * 2 ^ ((r - 1) * c) ||| 2 ^ (k + (r - 1) * c) = (2 ^ (k + 1) - 1) * 2 ^ ((r - 1) * c)) ∧ 2 ^ k - 1 < 4096 ∧ (2 ^ k - 1) * 2 ^ ((r - 1) * c) < 4096) := fun k hk => side_row c (by omega) (r - 1) (by omega) k hk
  obtain ⟨fL, hfL⟩ : ∃ fL : Nat → Nat, (fun k => colL c k) = fL := ⟨_, rfl⟩
  obtain ⟨fR, hfR⟩ : ∃ fR : Nat → Nat, (fun k => colL c k * 2 ^ (c - 1)) = fR := ⟨_, rfl⟩
  obtain ⟨gL, hgL⟩ : ∃ gL : Nat → Nat, (fun k => 2 ^ k - 1) = gL := ⟨_, rfl⟩
  obtain ⟨gH, hgH⟩ : ∃ gH : Nat → Nat, (fun k => (2 ^ k - 1) * 2 ^ ((r - 1) * c)) = gH := ⟨_, rfl⟩
  have HC' : Hid (∀ k, k < r → (fL k ||| 2 ^ (k * c) = fL (k + 1)) ∧ (fR k ||| 2 ^ (k * c + c - 1) = fR (k + 1)) ∧ fL k < 4096 ∧ fR k < 4096) := by rw [← hfL, ← hfR]; exact HC.out
  have HR' : Hid (∀ k, k < c → (gL k ||| 2 ^ k = gL (k + 1)) ∧ (gH k ||| 2 ^ (k + (r - 1) * c) = gH (k + 1)) ∧ gL k < 4096 ∧ gH k < 4096) := by rw [← hgL, ← hgH]; exact HR.out
  have z0 : Hid (fL 0 = 0 ∧ fR 0 = 0 ∧ gL 0 = 0 ∧ gH 0 = 0) := by rw [← hfL, ← hfR, ← hgL, ← hgH]; simp [Hid, colL]
  rw [show colL c r = fL r by rw [← hfL], show colR c r = fR r by rw [← hfR]; rfl, show rowLow c = gL c by rw [← hgL]; rfl, show rowHigh c r = gH c by rw [← hgH]; rfl]
  clear HC HR hfL hfR hgL hgH
  go_enter Tryd.func39, Tryd.ntmps39
  go_wp2_with fail
  go_loopw [6] (fun k wr => ∃ K : Nat, K ≤ r ∧ k = .int .i64 (K : Nat) ∧ OwnI wr w.heap.size (.slice (some ⟨w.heap.size, 0, none⟩) 4 4) [(fL K : Int), (fR K : Int), 0, 0] ∧ Below w.heap.size w wr) (fun k _ => r - (intOf k).toNat)
  case atStart => exact ⟨0, by omega, rfl, by rw [z0.out.1, z0.out.2.1]; exact OwnI.box w [0, 0, 0, 0] (Nat.le_refl _) (by simp [maxLen]), (Below.refl _ _).alloc (Nat.le_refl _) _⟩
  case round =>
    obtain ⟨K, hK, rfl, own, hb⟩ := hrel
    by_cases hlt : K < r
    · obtain ⟨e1, e2, e3, e4⟩ := HC'.out K hlt
      obtain ⟨zz, hzz⟩ : ∃ zz, K * c = zz := ⟨_, rfl⟩
      have hz12 : zz ≤ 8 := by rw [← hzz]; exact Nat.mul_le_mul (show K ≤ 2 by omega) hc.2
      have wz : IntKind.i64.wrap ((K : Int) * (c : Int)) = (zz : Int) := by rw [← Int.natCast_mul, hzz]; exact IntWalk.i64_in _ (by omega)
      have wz2 : IntKind.i64.wrap ((zz : Int) + (c : Int)) = ((zz + c : Nat) : Int) := by rw [IntWalk.i64_in _ (by omega)]; omega
      obtain ⟨z2, hz2⟩ : ∃ z2, zz + c - 1 = z2 := ⟨_, rfl⟩
      have wz3 : IntKind.i64.wrap (((zz + c : Nat) : Int) - 1) = (z2 : Int) := by rw [IntWalk.i64_in _ (by omega)]; omega
      rw [hzz] at e1
      rw [hzz, hz2] at e2
      have hz212 : z2 ≤ 12 := by omega
      obtain ⟨P1, hP1, p1, p2, hp3, hp4⟩ := pow_named12 (show zz ≤ 13 by omega)
      obtain ⟨P2, hP2, p1', p2', hp3', hp4'⟩ := pow_named12 (show z2 ≤ 13 by omega)
      rw [hP1] at e1
      rw [hP2] at e2
      have o1 := or_small (x := fL K) (y := P1) (Nat.le_trans (Nat.le_of_lt e3) (by decide)) p2
      have o2 := or_small (x := fR K) (y := P2) (Nat.le_trans (Nat.le_of_lt e4) (by decide)) p2'
      rw [e1] at o1
      rw [e2] at o2
      clear e1 e2 hP1 hP2 hz2 hzz
      generalize zz + c = z3 at *
      have own1 := own.store 0 (fL (K + 1) : Nat)
      have own2 := own1.store 1 (fR (K + 1) : Nat)
      obtain ⟨x0, f0⟩ := own.slot (k := 0) (by omega)
      obtain ⟨x1, f1⟩ := own1.slot (k := 1) (by omega)
      have HO2 := Lib.hid own2
      have HB2 : Hid (Below w.heap.size w ((wr.setCell ⟨w.heap.size, 0, none⟩ (.int .i64 (fL (K + 1) : Nat))).setCell ⟨w.heap.size, 1, none⟩ (.int .i64 (fR (K + 1) : Nat)))) := (hb.setCell (by simp) _).setCell (by simp) _
      simp only [List.set_cons_zero, List.getD_cons_zero, List.getD_cons_succ] at x0 x1
      clear own own1 own2 hb e3 e4
      generalize fL K = B1 at *
      generalize fR K = B2 at *
      go_wp2_with fail
      go_region
      go_wp2_with fail
      go_region
      go_wp2_with fail
      go_roundw
      case rel => exact ⟨K + 1, by omega, by go_num, HO2.out.drew.drew, HB2.out.drew.drew⟩
      case measure => simp [intOf]; omega
    · obtain rfl : K = r := by omega
      clear HC'
      go_wp2_with fail
      go_loopw [7] (fun k wr => ∃ J : Nat, J ≤ c ∧ k = .int .i64 (J : Nat) ∧ OwnI wr w.heap.size (.slice (some ⟨w.heap.size, 0, none⟩) 4 4) [(fL K : Int), (fR K : Int), (gL J : Int), (gH J : Int)] ∧ Below w.heap.size w wr) (fun k _ => c - (intOf k).toNat)
      case atStart => exact ⟨0, by omega, rfl, by rw [z0.out.2.2.1, z0.out.2.2.2]; exact own, hb⟩
      case round =>
        clear hb own
        obtain ⟨J, hJ, rfl, own, hb⟩ := hrel
        by_cases hlt : J < c
        · obtain ⟨e1, e2, e3, e4⟩ := HR'.out J hlt
          obtain ⟨zz, hzz⟩ : ∃ zz, (K - 1) * c = zz := ⟨_, rfl⟩
          have hz12 : zz ≤ 8 := by rw [← hzz]; exact Nat.mul_le_mul (show K - 1 ≤ 2 by omega) hc.2
          have wr1 : IntKind.i64.wrap ((K : Int) - 1) = ((K - 1 : Nat) : Int) := by rw [IntWalk.i64_in _ (by omega)]; omega
          have wz : IntKind.i64.wrap (((K - 1 : Nat) : Int) * (c : Int)) = (zz : Int) := by rw [← Int.natCast_mul, hzz]; exact IntWalk.i64_in _ (by omega)
          have wz2 : IntKind.i64.wrap ((J : Int) + (zz : Int)) = ((J + zz : Nat) : Int) := by rw [IntWalk.i64_in _ (by omega)]; omega
          rw [hzz] at e2
          obtain ⟨z2, hz2⟩ : ∃ z2, J + zz = z2 := ⟨_, rfl⟩
          rw [hz2] at wz2 e2
          have hz212 : z2 ≤ 12 := by omega
          obtain ⟨P1, hP1, p1, p2, hp3, hp4⟩ := pow_named12 (show J ≤ 13 by omega)
          obtain ⟨P2, hP2, p1', p2', hp3', hp4'⟩ := pow_named12 (show z2 ≤ 13 by omega)
          rw [hP1] at e1
          rw [hP2] at e2
          have o1 := or_small (x := gL J) (y := P1) (Nat.le_trans (Nat.le_of_lt e3) (by decide)) p2
          have o2 := or_small (x := gH J) (y := P2) (Nat.le_trans (Nat.le_of_lt e4) (by decide)) p2'
          rw [e1] at o1
          rw [e2] at o2
          clear e1 e2 hP1 hP2 hz2 hzz
          generalize K - 1 = K1 at *
          have own1 := own.store 2 (gL (J + 1) : Nat)
          have own2 := own1.store 3 (gH (J + 1) : Nat)
          obtain ⟨x0, f0⟩ := own.slot (k := 2) (by omega)
          obtain ⟨x1, f1⟩ := own1.slot (k := 3) (by omega)
          have HO2 := Lib.hid own2
          have HB2 : Hid (Below w.heap.size w ((wr.setCell ⟨w.heap.size, 2, none⟩ (.int .i64 (gL (J + 1) : Nat))).setCell ⟨w.heap.size, 3, none⟩ (.int .i64 (gH (J + 1) : Nat)))) := (hb.setCell (by simp) _).setCell (by simp) _
          simp only [List.set_cons_zero, List.set_cons_succ, List.getD_cons_zero, List.getD_cons_succ] at x0 x1
          clear own own1 own2 hb e3 e4
          generalize gL J = B1 at *
          generalize gH J = B2 at *
          go_wp2_with fail
          go_region
          go_wp2_with fail
          go_region
          go_wp2_with fail
          go_roundw
          case rel => exact ⟨J + 1, by omega, by go_num, HO2.out.drew.drew, HB2.out.drew.drew⟩
          case measure => simp [intOf]; omega
        · obtain rfl : J = c := by omega
          go_wp2_with fail
          go_returns
          exact ⟨some ⟨w.heap.size, 0, none⟩, 4, rfl, own, hb⟩

def inB (a n : Int) : Bool := decide (0 ≤ a) && decide (a ≤ n - 1)
theorem inB_nat {a : Int} {n : Nat} (h : inB a n = true) : ∃ A : Nat, a = A ∧ A < n := by
  simp only [inB, Bool.and_eq_true, decide_eq_true_eq] at h
  exact ⟨a.toNat, by omega, by omega⟩
theorem inB_of {A n : Nat} (h : A < n) : inB (A : Nat) (n : Nat) = true := by simp only [inB, Bool.and_eq_true, decide_eq_true_eq]; omega
def touchI (a b c r : Int) : Bool := boardB c r && (inB a (c * r) && (inB b (c * r) && touchN c.toNat a.toNat b.toNat))
def stateB (s c r : Int) : Bool := boardB c r && inB s ((2 ^ (c.toNat * r.toNat) : Nat) : Int)
def darkI (s c r : Int) : Bool := stateB s c r && darkN c.toNat r.toNat s.toNat
def lightI (s c r : Int) : Bool := stateB s c r && lightN c.toNat r.toNat s.toNat
def cntDI (c r : Int) : Int := if boardB c r = true then (tabD c.toNat r.toNat : Nat) else -1
theorem prod_small {C R : Nat} (hc : 1 ≤ C ∧ C ≤ 4) (hr : 1 ≤ R ∧ R ≤ 3) : ∃ n, C * R = n ∧ 1 ≤ n ∧ n ≤ 12 ∧ ((C : Int) * (R : Int) = (n : Int)) ∧ IntKind.i64.wrap ((C : Int) * (R : Int)) = (n : Int) := by
  have h : C * R ≤ 12 := Nat.mul_le_mul hc.2 hr.2
  have h1 : 1 ≤ C * R := Nat.mul_le_mul hc.1 hr.1
  refine ⟨C * R, rfl, h1, h, by rw [Int.natCast_mul], ?_⟩
  rw [← Int.natCast_mul]; exact IntWalk.i64_in _ (by omega)

set_option maxHeartbeats 2000000 in
theorem specTouchOk_any (a b c r : Int) (w : World) : Calls Tryd.prog 13 #[.int .i64 a, .int .i64 b, .int .i64 c, .int .i64 r] w fun e w' => e = .returned (.bool (touchI a b c r)) ∧ Below w.heap.size w w' := by
  unfold touchI
  cases hB : boardB c r with
  | false =>
    have HB := Lib.hid hB
    clear hB
    go_enter Tryd.func13, Tryd.ntmps13
    go_wp2_with fail
    refine (specBoardOk_any _ _ _).mono ?_
    rintro e1 w1 ⟨rfl, rfl⟩
    rw [HB.out]
    go_wp2_with fail
    go_returns
    exact ⟨rfl, Below.refl _ _⟩
  | true =>
    have HB := Lib.hid hB
    obtain ⟨C, R, rfl, rfl, hc, hr⟩ := board_nat hB
    obtain ⟨n, hn, n1, n12, hnI, wn⟩ := prod_small hc hr
    have wn1 : IntKind.i64.wrap ((n : Int) - 1) = (n : Int) - 1 := IntWalk.i64_in _ (by omega)
    rw [hnI]
    clear hB hn hnI
    cases hA : inB a n with
    | false =>
      have HA : Hid ((decide (0 ≤ a) && decide (a ≤ (n : Int) - 1)) = false) := hA
      clear hA
      go_enter Tryd.func13, Tryd.ntmps13
      go_wp2_with fail
      refine (specBoardOk_any _ _ _).mono ?_
      rintro e1 w1 ⟨rfl, rfl⟩
      rw [HB.out]
      go_wp2_with fail
      refine (l1In_any _ _ _ _).mono ?_
      rintro e2 w2 ⟨rfl, rfl⟩
      rw [HA.out]
      go_wp2_with fail
      go_returns
      exact ⟨rfl, Below.refl _ _⟩
    | true =>
      have HA : Hid ((decide (0 ≤ a) && decide (a ≤ (n : Int) - 1)) = true) := hA
      cases hB : inB b n with
      | false =>
        have HBB : Hid ((decide (0 ≤ b) && decide (b ≤ (n : Int) - 1)) = false) := hB
        clear hA hB
        go_enter Tryd.func13, Tryd.ntmps13
        go_wp2_with fail
        refine (specBoardOk_any _ _ _).mono ?_
        rintro e1 w1 ⟨rfl, rfl⟩
        rw [HB.out]
        go_wp2_with fail
        refine (l1In_any _ _ _ _).mono ?_
        rintro e2 w2 ⟨rfl, rfl⟩
        rw [HA.out]
        go_wp2_with fail
        refine (l1In_any _ _ _ _).mono ?_
        rintro e3 w3 ⟨rfl, rfl⟩
        rw [HBB.out]
        go_wp2_with fail
        go_returns
        exact ⟨rfl, Below.refl _ _⟩
      | true =>
        have HBB : Hid ((decide (0 ≤ b) && decide (b ≤ (n : Int) - 1)) = true) := hB
        obtain ⟨A', rfl, hA'⟩ := inB_nat hA
        obtain ⟨B', rfl, hB'⟩ := inB_nat hB
        clear hA hB
        have HT := fun u => l7Touch_any A' B' C hc.1 (by omega) (by omega) u
        go_enter Tryd.func13, Tryd.ntmps13
        go_wp2_with fail
        refine (specBoardOk_any _ _ _).mono ?_
        rintro e1 w1 ⟨rfl, rfl⟩
        rw [HB.out]
        go_wp2_with fail
        refine (l1In_any _ _ _ _).mono ?_
        rintro e2 w2 ⟨rfl, rfl⟩
        rw [HA.out]
        go_wp2_with fail
        refine (l1In_any _ _ _ _).mono ?_
        rintro e3 w3 ⟨rfl, rfl⟩
        rw [HBB.out]
        go_wp2_with fail
        refine (HT _).mono ?_
        rintro e4 w4 ⟨rfl, hb4⟩
        go_wp2_with fail
        go_returns
        exact ⟨rfl, hb4⟩

/-- Four sides, in a row of the call's own. -/
def SidesAt (w : World) (g c : Nat) (xs : List Int) (u : World) : Prop := OwnI u w.heap.size (.slice (some ⟨g, 0, none⟩) 4 c) xs ∧ Below w.heap.size w u
theorem SidesAt.on {w u : World} {g c : Nat} {xs : List Int} (h : SidesAt w g c xs u) : ∀ w', Below u.heap.size u w' → SidesAt w g c xs w' := fun _ hb => ⟨h.1.below hb h.1.lt, h.2.trans (hb.mono h.2.size)⟩
theorem SidesAt.drew {w u : World} {g c : Nat} {xs : List Int} (h : SidesAt w g c xs u) : SidesAt w g c xs u.drew := ⟨h.1.drew, h.2.drew⟩
theorem GotInts.four {w w' : World} {a b c d : Int} {e : Ending} (h : GotInts w [a, b, c, d] e w') : ∃ g k, e = .returned (.slice (some ⟨g, 0, none⟩) 4 k) ∧ SidesAt w g k [a, b, c, d] w' := by
  obtain ⟨A, k, rfl, own, hb⟩ := h
  rcases own.form with ⟨_, h0⟩ | ⟨g, k', hv, _, _⟩
  · cases h0
  · injection hv with hA _ hc
    subst hA
    exact ⟨g, k, rfl, own, hb⟩
theorem reach_lt {T : Nat → Nat → Bool} {n S F D m : Nat} (h : Reach T n S F D) (hS : S < 2 ^ m) : D < 2 ^ m := by
  refine Nat.lt_of_not_le fun hn => ?_
  obtain ⟨i, hi, hb⟩ := Nat.exists_ge_and_testBit_of_ge_two_pow hn
  have := h.sub i hb
  rw [Nat.testBit_lt_two_pow (Nat.lt_of_lt_of_le hS (Nat.pow_le_pow_right (by omega) hi))] at this; cases this
theorem col_small {c r : Nat} (hc : 1 ≤ c ∧ c ≤ 4) (hr : 1 ≤ r ∧ r ≤ 3) : colL c r < 4096 ∧ colR c r < 4096 ∧ rowLow c < 4096 ∧ rowHigh c r < 4096 := by
  have h : ∀ c, c < 5 → ∀ r, r < 4 → 1 ≤ c → colL c r < 4096 ∧ colR c r < 4096 ∧ rowLow c < 4096 ∧ rowHigh c r < 4096 := by decide +kernel
  exact h c (by omega) r (by omega) hc.1
theorem ne_zero_bool (x : Nat) : ((x : Int) != 0) = !(x == 0) := by
  cases h : (x == 0)
  · rw [beq_eq_false_iff_ne] at h
    simp; omega
  · rw [beq_iff_eq] at h; subst h; rfl

set_option maxHeartbeats 4000000 in
theorem specDarkOk_any (s c r : Int) (w : World) : Calls Tryd.prog 17 #[.int .i64 s, .int .i64 c, .int .i64 r] w fun e w' => e = .returned (.bool (darkI s c r)) ∧ Below w.heap.size w w' := by
  unfold darkI stateB
  cases hB : boardB c r with
  | false =>
    have HB := Lib.hid hB
    clear hB
    go_enter Tryd.func17, Tryd.ntmps17
    go_wp2_with fail
    refine (specBoardOk_any _ _ _).mono ?_
    rintro e1 w1 ⟨rfl, rfl⟩
    rw [HB.out]
    go_wp2_with fail
    go_returns
    exact ⟨rfl, Below.refl _ _⟩
  | true =>
    have HB := Lib.hid hB
    obtain ⟨C, R, rfl, rfl, hc, hr⟩ := board_nat hB
    obtain ⟨n, hn, n1, n12, hnI, wn⟩ := prod_small hc hr
    obtain ⟨P, hP, p1, p2, hp3, hp4⟩ := pow_named12 (show n ≤ 13 by omega)
    have wP1 : IntKind.i64.wrap ((P : Int) - 1) = (P : Int) - 1 := IntWalk.i64_in _ (by omega)
    rw [show ((C : Nat) : Int).toNat = C from rfl, show ((R : Nat) : Int).toNat = R from rfl, hn, hP]
    clear hB hnI
    cases hA : inB s P with
    | false =>
      have HA : Hid ((decide (0 ≤ s) && decide (s ≤ (P : Int) - 1)) = false) := hA
      clear hA hP hn hc hr
      go_enter Tryd.func17, Tryd.ntmps17
      go_wp2_with fail
      refine (specBoardOk_any _ _ _).mono ?_
      rintro e1 w1 ⟨rfl, rfl⟩
      rw [HB.out]
      go_wp2_with fail
      refine (l1In_any _ _ _ _).mono ?_
      rintro e2 w2 ⟨rfl, rfl⟩
      rw [HA.out]
      go_wp2_with fail
      go_returns
      exact ⟨rfl, Below.refl _ _⟩
    | true =>
      have HA : Hid ((decide (0 ≤ s) && decide (s ≤ (P : Int) - 1)) = true) := hA
      obtain ⟨S, rfl, hS⟩ := inB_nat hA
      have hSP : S < 2 ^ (C * R) := by rw [hn, hP]; exact hS
      have HSD : Hid (∀ u, Calls Tryd.prog 39 #[.int .i64 C, .int .i64 R] u (GotInts u [(colL C R : Int), (colR C R : Int), (rowLow C : Int), (rowHigh C R : Int)])) := fun u => l7Sides_any C R hc hr u
      obtain ⟨s1, s2, s3, s4⟩ := col_small hc hr
      have hlt : S < 2 ^ (C * R) := hSP
      have hR := dark_reach hc hr hSP
      have hD12 : reachN C R (S) (colL C R) < P := Nat.lt_of_lt_of_eq (reach_lt hR hlt) (by rw [hn, hP])
      have HV : Hid (darkN C R S = !(reachN C R (S) (colL C R) &&& colR C R == 0)) := rfl
      have HRC : Hid (∀ u, Calls Tryd.prog 40 #[.int .i64 (S : Nat), .int .i64 (colL C R : Nat), .int .i64 C, .int .i64 R] u fun e w' => e = .returned (.int .i64 (reachN C R (S) (colL C R) : Nat)) ∧ Below u.heap.size u w') := fun u =>
        (l7Reached_any (S) (colL C R) C R hc hr hlt (by omega) u).mono fun e w' ⟨D, h1, h2, h3⟩ => ⟨by rw [h2, h1.unique hR], h3⟩
      rw [show ((S : Nat) : Int).toNat = S from rfl]
      clear hR hlt hSP
      have ha := and_small (x := reachN C R (S) (colL C R)) (y := colR C R) (by omega) (by omega)
      generalize reachN C R (S) (colL C R) = D at *
      have hne := ne_zero_bool (D &&& colR C R)
      rw [← HV.out] at hne
      generalize darkN C R S = V at *
      generalize D &&& colR C R = DT at *
      generalize colL C R = X0 at *
      generalize colR C R = X1 at *
      generalize rowLow C = X2 at *
      generalize rowHigh C R = X3 at *
      clear hA hn hP hc hr HV s1 s2 s3 s4 hD12
      go_enter Tryd.func17, Tryd.ntmps17
      go_wp2_with fail
      refine (specBoardOk_any _ _ _).mono ?_
      rintro e1 w1 ⟨rfl, rfl⟩
      rw [HB.out]
      go_wp2_with fail
      refine (l1In_any _ _ _ _).mono ?_
      rintro e2 w2 ⟨rfl, rfl⟩
      rw [HA.out]
      go_wp2_with fail
      refine (HSD.out _).mono ?_
      intro e3 w3 h3
      obtain ⟨g, k, rfl, hs3⟩ := h3.four
      go_wp2_with fail
      refine wp_region_class (SidesAt w g k [(X0 : Int), (X1 : Int), (X2 : Int), (X3 : Int)]) (by kernel_rfl) (by kernel_rfl) hs3.drew ?_
      intro X hX f hf hex
      have k0 : ∀ x, (f x).cell? ⟨g, 0, none⟩ = some (.int .i64 (X0 : Nat)) := fun x => ((hf x).1.slot (k := 0) (by omega)).1
      have k1 : ∀ x, (f x).cell? ⟨g, 1, none⟩ = some (.int .i64 (X1 : Nat)) := fun x => ((hf x).1.slot (k := 1) (by omega)).1
      repeat (go_big_quiet_step (first
        | (go_at_call 40; with_reducible exact class_of hex (HRC.out _) (hf _).on)))
      refine wpQuiet_nil ?_
      rintro _ ⟨x, rfl⟩
      have L4 := hf x
      go_wp2_with fail
      go_returns
      exact ⟨retB (by first | exact hne | simp | simp [hne]), L4.2⟩

set_option maxHeartbeats 4000000 in
theorem specLightOk_any (s c r : Int) (w : World) : Calls Tryd.prog 21 #[.int .i64 s, .int .i64 c, .int .i64 r] w fun e w' => e = .returned (.bool (lightI s c r)) ∧ Below w.heap.size w w' := by
  unfold lightI stateB
  cases hB : boardB c r with
  | false =>
    have HB := Lib.hid hB
    clear hB
    go_enter Tryd.func21, Tryd.ntmps21
    go_wp2_with fail
    refine (specBoardOk_any _ _ _).mono ?_
    rintro e1 w1 ⟨rfl, rfl⟩
    rw [HB.out]
    go_wp2_with fail
    go_returns
    exact ⟨rfl, Below.refl _ _⟩
  | true =>
    have HB := Lib.hid hB
    obtain ⟨C, R, rfl, rfl, hc, hr⟩ := board_nat hB
    obtain ⟨n, hn, n1, n12, hnI, wn⟩ := prod_small hc hr
    obtain ⟨P, hP, p1, p2, hp3, hp4⟩ := pow_named12 (show n ≤ 13 by omega)
    have wP1 : IntKind.i64.wrap ((P : Int) - 1) = (P : Int) - 1 := IntWalk.i64_in _ (by omega)
    rw [show ((C : Nat) : Int).toNat = C from rfl, show ((R : Nat) : Int).toNat = R from rfl, hn, hP]
    clear hB hnI
    cases hA : inB s P with
    | false =>
      have HA : Hid ((decide (0 ≤ s) && decide (s ≤ (P : Int) - 1)) = false) := hA
      clear hA hP hn hc hr
      go_enter Tryd.func21, Tryd.ntmps21
      go_wp2_with fail
      refine (specBoardOk_any _ _ _).mono ?_
      rintro e1 w1 ⟨rfl, rfl⟩
      rw [HB.out]
      go_wp2_with fail
      refine (l1In_any _ _ _ _).mono ?_
      rintro e2 w2 ⟨rfl, rfl⟩
      rw [HA.out]
      go_wp2_with fail
      go_returns
      exact ⟨rfl, Below.refl _ _⟩
    | true =>
      have HA : Hid ((decide (0 ≤ s) && decide (s ≤ (P : Int) - 1)) = true) := hA
      obtain ⟨S, rfl, hS⟩ := inB_nat hA
      have hSP : S < 2 ^ (C * R) := by rw [hn, hP]; exact hS
      have HSD : Hid (∀ u, Calls Tryd.prog 39 #[.int .i64 C, .int .i64 R] u (GotInts u [(colL C R : Int), (colR C R : Int), (rowLow C : Int), (rowHigh C R : Int)])) := fun u => l7Sides_any C R hc hr u
      obtain ⟨s1, s2, s3, s4⟩ := col_small hc hr
      have hlt : 2 ^ (C * R) - 1 - S < 2 ^ (C * R) := by have := Nat.one_le_two_pow (n := C * R); omega
      have hR := light_reach hc hr hSP
      have hD12 : reachN C R (2 ^ (C * R) - 1 - S) (rowLow C) < P := Nat.lt_of_lt_of_eq (reach_lt hR hlt) (by rw [hn, hP])
      have HV : Hid (lightN C R S = !(reachN C R (2 ^ (C * R) - 1 - S) (rowLow C) &&& rowHigh C R == 0)) := rfl
      have HRC : Hid (∀ u, Calls Tryd.prog 40 #[.int .i64 (2 ^ (C * R) - 1 - S : Nat), .int .i64 (rowLow C : Nat), .int .i64 C, .int .i64 R] u fun e w' => e = .returned (.int .i64 (reachN C R (2 ^ (C * R) - 1 - S) (rowLow C) : Nat)) ∧ Below u.heap.size u w') := fun u =>
        (l7Reached_any (2 ^ (C * R) - 1 - S) (rowLow C) C R hc hr hlt (by omega) u).mono fun e w' ⟨D, h1, h2, h3⟩ => ⟨by rw [h2, h1.unique hR], h3⟩
      rw [show ((S : Nat) : Int).toNat = S from rfl]
      clear hR hlt hSP
      have ha := and_small (x := reachN C R (2 ^ (C * R) - 1 - S) (rowLow C)) (y := rowHigh C R) (by omega) (by omega)
      generalize reachN C R (2 ^ (C * R) - 1 - S) (rowLow C) = D at *
      have hne := ne_zero_bool (D &&& rowHigh C R)
      rw [← HV.out] at hne
      generalize lightN C R S = V at *
      generalize D &&& rowHigh C R = DT at *
      generalize colL C R = X0 at *
      generalize colR C R = X1 at *
      generalize rowLow C = X2 at *
      generalize rowHigh C R = X3 at *
      rw [hn, hP] at HRC
      have wl : IntKind.i64.wrap ((P : Int) - 1 - (S : Int)) = ((P - 1 - S : Nat) : Int) := by rw [IntWalk.i64_in _ (by omega)]; omega
      generalize P - 1 - S = U at *
      clear hA hn hP hc hr HV s1 s2 s3 s4 hD12
      go_enter Tryd.func21, Tryd.ntmps21
      go_wp2_with fail
      refine (specBoardOk_any _ _ _).mono ?_
      rintro e1 w1 ⟨rfl, rfl⟩
      rw [HB.out]
      go_wp2_with fail
      refine (l1In_any _ _ _ _).mono ?_
      rintro e2 w2 ⟨rfl, rfl⟩
      rw [HA.out]
      go_wp2_with fail
      refine (HSD.out _).mono ?_
      intro e3 w3 h3
      obtain ⟨g, k, rfl, hs3⟩ := h3.four
      go_wp2_with fail
      refine wp_region_class (SidesAt w g k [(X0 : Int), (X1 : Int), (X2 : Int), (X3 : Int)]) (by kernel_rfl) (by kernel_rfl) hs3.drew ?_
      intro X hX f hf hex
      have k0 : ∀ x, (f x).cell? ⟨g, 2, none⟩ = some (.int .i64 (X2 : Nat)) := fun x => ((hf x).1.slot (k := 2) (by omega)).1
      have k1 : ∀ x, (f x).cell? ⟨g, 3, none⟩ = some (.int .i64 (X3 : Nat)) := fun x => ((hf x).1.slot (k := 3) (by omega)).1
      repeat (go_big_quiet_step (first
        | (go_at_call 40; with_reducible exact class_of hex (HRC.out _) (hf _).on)))
      refine wpQuiet_nil ?_
      rintro _ ⟨x, rfl⟩
      have L4 := hf x
      go_wp2_with fail
      go_returns
      exact ⟨retB (by first | exact hne | simp | simp [hne]), L4.2⟩

set_option maxHeartbeats 2000000 in
theorem specCountDark_any (c r : Int) (w : World) : Calls Tryd.prog 24 #[.int .i64 c, .int .i64 r] w fun e w' => e = .returned (.int .i64 (cntDI c r)) ∧ Below w.heap.size w w' := by
  unfold cntDI
  cases hB : boardB c r with
  | false =>
    have HB := Lib.hid hB
    rw [if_neg (by simp)]
    clear hB
    go_enter Tryd.func24, Tryd.ntmps24
    go_wp2_with fail
    refine (specBoardOk_any _ _ _).mono ?_
    rintro e1 w1 ⟨rfl, rfl⟩
    rw [HB.out]
    go_wp2_with fail
    go_returns
    exact ⟨rfl, Below.refl _ _⟩
  | true =>
    have HB := Lib.hid hB
    rw [if_pos rfl]
    obtain ⟨C, R, rfl, rfl, hc, hr⟩ := board_nat hB
    have HCNT := Lib.hid (dark_cnt hc hr)
    rw [show ((C : Nat) : Int).toNat = C from rfl, show ((R : Nat) : Int).toNat = R from rfl]
    obtain ⟨n, hn, n1, n12, hnI, wn⟩ := prod_small hc hr
    obtain ⟨P, hP, p1, p2, hp3, hp4⟩ := pow_named12 (show n ≤ 13 by omega)
    have HD : Hid (∀ (s : Nat) (u : World), s < P → Calls Tryd.prog 17 #[.int .i64 (s : Nat), .int .i64 C, .int .i64 R] u fun e w' => e = .returned (.bool (darkN C R s)) ∧ Below u.heap.size u w') := fun s u hs => by
      have h := specDarkOk_any (s : Nat) C R u
      have e : darkI (s : Nat) C R = darkN C R s := by
        have h1 : inB (s : Nat) ((P : Nat) : Int) = true := inB_of hs
        unfold darkI stateB
        rw [hB, show ((C : Nat) : Int).toNat = C from rfl, show ((R : Nat) : Int).toNat = R from rfl, hn, hP, h1]; rfl
      rw [e] at h; exact h
    rw [hn, hP] at HCNT
    obtain ⟨q, hq⟩ : ∃ q, darkN C R = q := ⟨_, rfl⟩
    rw [hq] at HCNT
    have HD' : Hid (∀ (s : Nat) (u : World), s < P → Calls Tryd.prog 17 #[.int .i64 (s : Nat), .int .i64 C, .int .i64 R] u fun e w' => e = .returned (.bool (q s)) ∧ Below u.heap.size u w') := by rw [← hq]; exact HD.out
    clear hB hn hP hnI HD hq hc hr
    go_enter Tryd.func24, Tryd.ntmps24
    go_wp2_with fail
    refine (specBoardOk_any _ _ _).mono ?_
    rintro e1 w1 ⟨rfl, rfl⟩
    rw [HB.out]
    go_wp2_with fail
    go_loopw [5, 6] (fun v t wr => ∃ s : Nat, s ≤ P ∧ t = .int .i64 (s : Nat) ∧ v = .int .i64 (cntB q s : Nat) ∧ Below w.heap.size w wr) (fun _ t _ => P - (intOf t).toNat)
    case atStart => exact ⟨0, by omega, rfl, rfl, Below.refl _ _⟩
    case round =>
      obtain ⟨s, hs, rfl, rfl, hb⟩ := hrel
      by_cases hlt : s < P
      · have hle := cntB_le q s
        have HX := Lib.hid (cntB_succ q s)
        have hcall := HD'.out s wr hlt
        generalize hy : cntB q s = y at *
        clear hy
        have wy : IntKind.i64.wrap ((y : Int) + 1) = ((y + 1 : Nat) : Int) := by rw [IntWalk.i64_in _ (by omega)]; omega
        cases hv : q s with
        | true =>
          rw [hv] at hcall
          rw [hv, if_pos rfl] at HX
          clear hv
          go_wp2_with fail
          refine hcall.mono ?_
          clear hcall
          rintro e2 w2 ⟨rfl, hb2⟩
          have hb3 := hb.trans (hb2.mono hb.size)
          go_wp2_with fail
          go_roundw
          case rel => exact ⟨s + 1, by omega, by go_num, by rw [HX.out]; simp, hb3⟩
          case measure => simp [intOf]; omega
        | false =>
          rw [hv] at hcall
          rw [hv, if_neg (by simp), Nat.add_zero] at HX
          clear hv
          go_wp2_with fail
          refine hcall.mono ?_
          clear hcall
          rintro e2 w2 ⟨rfl, hb2⟩
          have hb3 := hb.trans (hb2.mono hb.size)
          go_wp2_with fail
          go_roundw
          case rel => exact ⟨s + 1, by omega, by go_num, by rw [HX.out]; simp, hb3⟩
          case measure => simp [intOf]; omega
      · obtain rfl : s = P := by omega
        go_wp2_with fail
        go_returns
        exact ⟨retI (by rw [HCNT.out]), hb⟩
end Go.Proofs.YtcmomghlepmogabDoor
