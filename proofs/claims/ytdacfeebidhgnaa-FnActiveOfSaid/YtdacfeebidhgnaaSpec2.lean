/- l2Pieces, PiecesIn, JoinedOk, WholeOk, RankOf, RingFreeOk of the reference. -/
import Derived.Test.YtdacfeebidhgnaaRow
import Derived.Test.YtdacfeebidhgnaaImpl2
namespace Go.Proofs.Ytdacfeebidhgnaa
open Go.RowKit
set_option maxRecDepth 100000

set_option maxRecDepth 100000 in
theorem l2Pieces_any (n s : Int) (A : Option Addr) (cap : Nat) (es : List (Int × Int)) (w : World) (hes : EdgesIn w w.heap.size A es) (hn : stateOkB n es s = true) :
    Calls Try.prog 66 #[.agg #[.int .i64 n, .slice A es.length cap], .int .i64 s] w fun e w' => e = .returned (.int .i64 (piecesB n es s : Nat)) ∧ Below w.heap.size w w' := by
  have h9 := stateOkB_lt hn
  have hnet := stateOkB_net hn
  have hn6 := (netOkB_iff.1 hnet).1
  obtain ⟨m, rfl⟩ : ∃ m : Nat, n = m := ⟨n.toNat, by omega⟩
  have L1 := ArgNet.start (cap := cap) (n := m) 29 hes
  clear hn
  go_enter Try.func66, Try.ntmps66
  go_wp2_with fail
  refine (l2Find_any _ _ _ _ _ _ L1.edges hnet h9.1 h9.2).mono ?_
  rintro e2 w2 ⟨hb2, g, c, q, R, rfl, O, hq, hR⟩
  have L2 := L1.step hb2 L1.lt
  have HC : Hid (cnt R m = piecesB m es s) := hR.cnt_eq (endsOf_ok hnet)
  simp only [Int.toNat_natCast] at O hq ⊢
  clear L1 hb2
  obtain ⟨_, _, c0, c1, s2⟩ := id L2
  go_wp2_with fail
  go_loop [5, 7] (fun v t => ∃ k : Nat, k ≤ m ∧ v = .int .i64 (cnt R k : Nat) ∧ t = .int .i64 (k + 1 : Nat)) (fun _ t => m + 1 - (intOf t).toNat)
  case atStart => exact ⟨0, by omega, rfl, rfl⟩
  case round =>
    obtain ⟨k, hk, rfl, rfl⟩ := hrel
    have hle := cnt_le R k
    by_cases hlt : k < m
    · have cc := O.cell (show k + 1 < m + 1 by omega)
      rw [hq (k + 1) (by omega) (by omega)] at cc
      have hst : Hid (cnt R (k + 1) = cnt R k + if R (k + 1) = k + 1 then 1 else 0) := rfl
      by_cases hv : R (k + 1) = k + 1
      · have hv' : (R (k + 1) : Int) = (k : Int) + 1 := by omega
        have hst' := Lib.hid (hst.out.trans (by rw [if_pos hv]))
        clear hst hv
        generalize R (k + 1) = z at *
        generalize hc : cnt R (k + 1) = c9 at *
        go_wp2_with fail
        go_round
        case rel => exact ⟨k + 1, by omega, by rw [hc, hst'.out]; go_num, by go_num⟩
        case measure => simp [intOf]; omega
      · have hv' : ¬ (R (k + 1) : Int) = (k : Int) + 1 := by omega
        have hst' := Lib.hid (hst.out.trans (by rw [if_neg hv]))
        clear hst hv
        generalize R (k + 1) = z at *
        generalize hc : cnt R (k + 1) = c9 at *
        go_wp2_with fail
        go_round
        case rel => exact ⟨k + 1, by omega, by rw [hc, hst'.out]; go_num, by go_num⟩
        case measure => simp [intOf]; omega
    · obtain rfl : k = m := by omega
      go_wp2_with fail
      go_ret
      exact ⟨by rw [← HC.out]; rfl, L2.below⟩

end Go.Proofs.Ytdacfeebidhgnaa
