/- l2Pieces, PiecesIn, JoinedOk, WholeOk, RankOf, RingFreeOk of the reference. -/
import Derived.Test.YtmdmmebekicpkaaFind
import Derived.Test.YtmdmmebekicpkaaImpl2
namespace Go.Proofs.Ytmdmmebekicpkaa
open Go.RowKit
set_option maxRecDepth 100000

set_option maxRecDepth 100000 in
theorem specJoinedOk_any (n s a b : Int) (A : Option Addr) (cap : Nat) (es : List (Int × Int)) (w : World) (hes : EdgesIn w w.heap.size A es) (hl : es.length ≤ 1048576) :
    Calls Try.prog 120 #[.agg #[.int .i64 n, .slice A es.length cap], .int .i64 s, .int .i64 a, .int .i64 b] w fun e w' => e = .returned (.bool (joinedB n es s a b)) ∧ Below w.heap.size w w' := by
  have hes' := boxE hes #[.int .i64 n, .slice A es.length cap] 53
  by_cases hn : stateOkB n es s = true
  · have h9 := stateOkB_lt hn
    have hnet := stateOkB_net hn
    have hn6 := (netOkB_iff.1 hnet).1
    have HN := Lib.hid hn
    by_cases ha : 1 ≤ a ∧ a ≤ n
    · have HA : Hid ((decide (1 ≤ a) && decide (a ≤ n)) = true) := by simp [Hid, ha.1, ha.2]
      by_cases hb : 1 ≤ b ∧ b ≤ n
      · have HB : Hid ((decide (1 ≤ b) && decide (b ≤ n)) = true) := by simp [Hid, hb.1, hb.2]
        obtain ⟨x, rfl⟩ : ∃ x : Nat, a = x := ⟨a.toNat, by omega⟩
        obtain ⟨y, rfl⟩ : ∃ y : Nat, b = y := ⟨b.toNat, by omega⟩
        have HP : Hid (joinedB n es s x y = decide (rep (endsOf es) (bits s) es.length x = rep (endsOf es) (bits s) es.length y)) := by simp [Hid, joinedB, hn, ha.1, ha.2, hb.1, hb.2]
        have hx1 : 1 ≤ x := by omega
        have hy1 : 1 ≤ y := by omega
        have hxN : x ≤ n.toNat := by omega
        have hyN : y ≤ n.toNat := by omega
        clear hn ha hb
        go_enter Try.func120, Try.ntmps120
        go_wp2_with fail
        refine (specStateOk_any _ _ _ _ _ _ hes' hl).mono ?_
        rintro e1 w1 ⟨rfl, hb1⟩
        rw [HN.out]
        have L1 := (ArgNet.start (cap := cap) (n := n) 53 hes).step hb1 (by simp)
        clear hb1
        obtain ⟨_, _, c0, c1, s1⟩ := id L1
        go_wp2_with fail
        refine (l1In_any _ _ _ _).mono ?_
        rintro e2 w2 ⟨rfl, rfl⟩
        rw [HA.out]
        go_wp2_with fail
        refine (l1In_any _ _ _ _).mono ?_
        rintro e2 w2 ⟨rfl, rfl⟩
        rw [HB.out]
        go_wp2_with fail
        refine (l2Find_any _ _ _ _ _ _ L1.edges hnet h9.1 h9.2).mono ?_
        rintro e4 w4 ⟨hb4, g, c, q, R, rfl, O, hq, hR⟩
        have L4 := L1.step hb4 L1.lt
        have HC : Hid (R x = R y ↔ rep (endsOf es) (bits s) es.length x = rep (endsOf es) (bits s) es.length y) := hR.same (rep_ok (endsOf_ok hnet) _ _ (Nat.le_refl _)) x y
        have cx := O.cell (show x < n.toNat + 1 by omega)
        have cy := O.cell (show y < n.toNat + 1 by omega)
        rw [hq x hx1 hxN] at cx
        rw [hq y hy1 hyN] at cy
        have ix : (x : Int) < ((n.toNat + 1 : Nat) : Int) := by omega
        have iy : (y : Int) < ((n.toNat + 1 : Nat) : Int) := by omega
        have B4 := L4.below
        clear L1 hb4 c0 c1 s1 L4 hq O
        generalize n.toNat + 1 = N1 at *
        go_wp2_with fail
        go_quiet (fail)
        go_wp2_with fail
        go_returns
        refine ⟨retB ?_, belowN B4 _⟩
        rw [HP.out, Bool.eq_iff_iff]
        simp [← HC.out]; omega
      · have HB : Hid ((decide (1 ≤ b) && decide (b ≤ n)) = false) := by simp [Hid]; omega
        have HP : Hid (joinedB n es s a b = false) := by simp [Hid, joinedB]; omega
        clear hn ha hb
        go_enter Try.func120, Try.ntmps120
        go_wp2_with fail
        refine (specStateOk_any _ _ _ _ _ _ hes' hl).mono ?_
        rintro e1 w1 ⟨rfl, hb1⟩
        rw [HN.out]
        have L1 := (ArgNet.start (cap := cap) (n := n) 53 hes).step hb1 (by simp)
        clear hb1
        obtain ⟨_, _, c0, c1, s1⟩ := id L1
        go_wp2_with fail
        refine (l1In_any _ _ _ _).mono ?_
        rintro e2 w2 ⟨rfl, rfl⟩
        rw [HA.out]
        go_wp2_with fail
        refine (l1In_any _ _ _ _).mono ?_
        rintro e2 w2 ⟨rfl, rfl⟩
        rw [HB.out]
        go_wp2_with fail
        go_returns
        exact ⟨by rw [HP.out]; rfl, L1.below⟩
    · have HA : Hid ((decide (1 ≤ a) && decide (a ≤ n)) = false) := by simp [Hid]; omega
      have HP : Hid (joinedB n es s a b = false) := by simp [Hid, joinedB]; omega
      clear hn ha
      go_enter Try.func120, Try.ntmps120
      go_wp2_with fail
      refine (specStateOk_any _ _ _ _ _ _ hes' hl).mono ?_
      rintro e1 w1 ⟨rfl, hb1⟩
      rw [HN.out]
      have L1 := (ArgNet.start (cap := cap) (n := n) 53 hes).step hb1 (by simp)
      clear hb1
      obtain ⟨_, _, c0, c1, s1⟩ := id L1
      go_wp2_with fail
      refine (l1In_any _ _ _ _).mono ?_
      rintro e2 w2 ⟨rfl, rfl⟩
      rw [HA.out]
      go_wp2_with fail
      go_returns
      exact ⟨by rw [HP.out]; rfl, L1.below⟩
  · have HN := Lib.hid (not_state hn)
    clear hn
    go_enter Try.func120, Try.ntmps120
    go_wp2_with fail
    refine (specStateOk_any _ _ _ _ _ _ hes' hl).mono ?_
    rintro e1 w1 ⟨rfl, hb1⟩
    rw [HN.out]
    go_wp2_with fail
    go_returns
    exact ⟨retB (by simp [joinedB, HN.out]), boxEB hb1⟩

end Go.Proofs.Ytmdmmebekicpkaa
