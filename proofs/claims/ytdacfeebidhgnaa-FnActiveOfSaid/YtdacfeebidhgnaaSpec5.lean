/- Chances of the reference: ChanceOk, l5Power, WaysOf, JoinedWays, WholeWays, AllWays. -/
import Derived.Test.YtdacfeebidhgnaaChance
import Derived.Test.YtdacfeebidhgnaaSpecCnt
namespace Go.Proofs.Ytdacfeebidhgnaa
open Go.RowKit
set_option maxRecDepth 100000

theorem specPower_any (x k : Nat) (hx : x ≤ 5) (hk : k ≤ 9) (w : World) :
    Calls Try.prog 80 #[.int .i64 x, .int .i64 k] w fun e w' => e = .returned (.int .i64 ((x ^ k : Nat) : Int)) ∧ w = w' := by
  obtain ⟨Z, hZ⟩ : ∃ Z, x ^ k = Z := ⟨_, rfl⟩
  have HZ := Lib.hid hZ
  rw [hZ]
  clear hZ
  go_enter Try.func80, Try.ntmps80
  go_wp2_with fail
  go_loopw [5, 6] (fun v i wr => ∃ (j Y : Nat), j ≤ k ∧ i = .int .i64 j ∧ v = .int .i64 Y ∧ Hid (x ^ j = Y) ∧ Y ≤ 1953125 ∧ wr = w) (fun _ i _ => k - (intOf i).toNat)
  case atStart => exact ⟨0, 1, by omega, rfl, rfl, rfl, by omega, rfl⟩
  case round =>
    obtain ⟨j, Y, hj, rfl, rfl, HY, hY, rfl⟩ := hrel
    by_cases hlt : j < k
    · have hs : Hid (x ^ (j + 1) = Y * x) := by rw [Hid, Nat.pow_succ, HY.out]
      have hb : Y * x ≤ 1953125 := by rw [← hs.out]; exact pw_bound hx (by omega)
      have hw1 : IntKind.i64.wrap ((Y : Int) * (x : Int)) = ((Y * x : Nat) : Int) := by rw [← Int.natCast_mul]; exact IntWalk.i64_in _ (by omega)
      have hw2 : wrap64 ((Y : Int) * (x : Int)) = ((Y * x : Nat) : Int) := by rw [← Int.natCast_mul]; unfold wrap64; omega
      go_wp2_with fail
      go_roundw
      case rel => exact ⟨j + 1, Y * x, by omega, by go_num, by first | rfl | (congr 1; done) | go_num, hs, hb, by first | rfl | trivial⟩
      case measure => simp [intOf]; omega
    · obtain rfl : j = k := by omega
      have : Y = Z := by rw [← HY.out, HZ.out]
      subst this
      go_wp2_with fail
      go_returns
      exact ⟨rfl, rfl⟩
theorem specPower_is (x k Z : Nat) (h : x ^ k = Z) (hx : x ≤ 5) (hk : k ≤ 9) (w : World) :
    Calls Try.prog 80 #[.int .i64 x, .int .i64 k] w fun e w' => e = .returned (.int .i64 (Z : Nat)) ∧ w = w' := h ▸ specPower_any x k hx hk w

/-- A callee that turns nothing, in a region that draws. -/
theorem quiet_same {P : Program} {w : World} {n : Nat} {fn : FuncId} {args : Array Value} {v : Value} (h : Calls P fn args (w.drewN n) fun e w' => e = .returned v ∧ w.drewN n = w') :
    Calls P fn args (w.drewN n) fun e w' => e = .returned v ∧ ∃ m, w' = w.drewN m := h.mono fun _ _ ⟨he, hb⟩ => ⟨he, n, hb.symm⟩

end Go.Proofs.Ytdacfeebidhgnaa
