/- Boards of the program: BoardOk, TouchOk, DarkOk, LightOk. -/
import Derived.Test.YtcmomghlepmogabDoorImpl7b
import Derived.Test.YtcmomghlepmogabDoorImpl7c
import Derived.Test.YtcmomghlepmogabDoorSpec7b
namespace Go.Proofs.YtcmomghlepmogabDoor
open Go.RowKit
set_option maxRecDepth 100000

theorem boardOk_any (c r : Int) (w : World) : Calls Tryd.prog 42 #[.int .i64 c, .int .i64 r] w fun e w' => e = .returned (.bool (boardB c r)) ∧ Below w.heap.size w w' := by
  go_enter Tryd.func42, Tryd.ntmps42
  go_wp2_with fail
  all_goals go_returns
  all_goals exact ⟨retB (by first | (simp [boardB, *]; done) | (simp [boardB, *]; omega)), Below.refl _ _⟩
theorem cellOk_any (a c r : Int) (w : World) : Calls Tryd.prog 28 #[.int .i64 a, .int .i64 c, .int .i64 r] w fun e w' => e = .returned (.bool (boardB c r && inB a (c * r))) ∧ Below w.heap.size w w' := by
  cases hB : boardB c r with
  | false =>
    have HB := Lib.hid hB
    clear hB
    go_enter Tryd.func28, Tryd.ntmps28
    go_wp2_with fail
    refine (boardOk_any _ _ _).mono ?_
    rintro e1 w1 ⟨rfl, hb1⟩
    rw [HB.out]
    go_wp2_with fail
    go_returns
    exact ⟨retB (by simp), hb1⟩
  | true =>
    have HB := Lib.hid hB
    obtain ⟨C, R, rfl, rfl, hc, hr⟩ := board_nat hB
    obtain ⟨n, hn, n1, n12, hnI, wn⟩ := prod_small hc hr
    rw [hnI]
    clear hB hn hnI
    have hi : inB a n = (decide (0 ≤ a) && decide (a < (n : Int))) := by
      unfold inB
      rw [Bool.eq_iff_iff]
      simp only [Bool.and_eq_true, decide_eq_true_eq]; omega
    rw [hi]
    clear hi
    go_enter Tryd.func28, Tryd.ntmps28
    go_wp2_with fail
    refine (boardOk_any _ _ _).mono ?_
    rintro e1 w1 ⟨rfl, hb1⟩
    rw [HB.out]
    go_wp2_with fail
    all_goals go_returns
    all_goals exact ⟨retB (by first | (simp [*]; done) | (simp [*]; omega)), hb1⟩
theorem boardStateOk_any (s c r : Int) (w : World) : Calls Tryd.prog 36 #[.int .i64 s, .int .i64 c, .int .i64 r] w fun e w' => e = .returned (.bool (stateB s c r)) ∧ Below w.heap.size w w' := by
  unfold stateB
  cases hB : boardB c r with
  | false =>
    have HB := Lib.hid hB
    clear hB
    go_enter Tryd.func36, Tryd.ntmps36
    go_wp2_with fail
    refine (boardOk_any _ _ _).mono ?_
    rintro e1 w1 ⟨rfl, hb1⟩
    rw [HB.out]
    go_wp2_with fail
    go_returns
    exact ⟨retB (by simp), hb1⟩
  | true =>
    have HB := Lib.hid hB
    obtain ⟨C, R, rfl, rfl, hc, hr⟩ := board_nat hB
    obtain ⟨n, hn, n1, n12, hnI, wn⟩ := prod_small hc hr
    obtain ⟨P, hP, p1, p2, hp3, hp4⟩ := pow_named12 (show n ≤ 13 by omega)
    rw [show ((C : Nat) : Int).toNat = C from rfl, show ((R : Nat) : Int).toNat = R from rfl, hn, hP]
    clear hB hn hnI hP
    have hi : inB s P = (decide (0 ≤ s) && decide (s < (P : Int))) := by
      unfold inB
      rw [Bool.eq_iff_iff]
      simp only [Bool.and_eq_true, decide_eq_true_eq]; omega
    rw [hi]
    clear hi
    go_enter Tryd.func36, Tryd.ntmps36
    go_wp2_with fail
    refine (boardOk_any _ _ _).mono ?_
    rintro e1 w1 ⟨rfl, hb1⟩
    rw [HB.out]
    go_wp2_with fail
    all_goals go_returns
    all_goals exact ⟨retB (by first | (simp [*]; done) | (simp [*]; omega)), hb1⟩

theorem hasU_any (x k : Nat) (hk : k < 64) (hx : x < 2 ^ 16) (w : World) : Calls Tryd.prog 31 #[.int .u64 x, .int .i64 k] w fun e w' => e = .returned (.bool (x.testBit k)) ∧ Below w.heap.size w w' := by
  have hz : (x : Int) / 2 ^ k = ((x / 2 ^ k : Nat) : Int) := by rw [Int.natCast_ediv, Int.natCast_pow]; rfl
  have hle : x / 2 ^ k ≤ x := Nat.div_le_self _ _
  have hb : x.testBit k = ((((x / 2 ^ k % 2 : Nat) : Int)) == 1) := by
    rw [Nat.testBit_eq_decide_div_mod_eq, Bool.eq_iff_iff, decide_eq_true_eq, beq_iff_eq]; omega
  generalize x / 2 ^ k = y at *
  have wa : Go.bits .and .u64 (y : Int) 1 = ((y % 2 : Nat) : Int) := by
    have h := and_u (x := y) (y := 1) (by omega) (by omega)
    rw [Nat.and_one_is_mod] at h
    exact h
  rw [hb]
  clear hb hle
  go_enter Tryd.func31, Tryd.ntmps31
  go_wp2_with fail
  go_returns
  exact ⟨retB (by first | rfl | simp), Below.refl _ _⟩
end Go.Proofs.YtcmomghlepmogabDoor
