/- Sets counted by their size: countSets of the program, at each function that tells which ones work. -/
import Derived.Test.YtdacfeebidhgnaaBothL
import Derived.Test.YtdacfeebidhgnaaBits7
namespace Go.Proofs.Ytdacfeebidhgnaa
open Go.RowKit
set_option maxRecDepth 100000

theorem all13 {p : Nat → Prop} [DecidablePred p] (h0 : allTo (fun s => decide (p s)) 10 0 = true) (h1 : allTo (fun s => decide (p s)) 10 1024 = true) (h2 : allTo (fun s => decide (p s)) 10 2048 = true) (h3 : allTo (fun s => decide (p s)) 10 3072 = true)
    (h4 : allTo (fun s => decide (p s)) 10 4096 = true) (h5 : allTo (fun s => decide (p s)) 10 5120 = true) (h6 : allTo (fun s => decide (p s)) 10 6144 = true) (h7 : allTo (fun s => decide (p s)) 10 7168 = true) : ∀ s, s < 8192 → p s := by
  intro s hs
  have go : ∀ b, allTo (fun s => decide (p s)) 10 b = true → b ≤ s → s < b + 1024 → p s := fun b hb l1 l2 => by
    have := (allTo_iff 10 b).1 hb (s - b) (by omega)
    rw [show b + (s - b) = s by omega] at this
    exact of_decide_eq_true this
  by_cases l1 : s < 1024
  · exact go _ h0 (by omega) (by omega)
  by_cases l2 : s < 2048
  · exact go _ h1 (by omega) (by omega)
  by_cases l3 : s < 3072
  · exact go _ h2 (by omega) (by omega)
  by_cases l4 : s < 4096
  · exact go _ h3 (by omega) (by omega)
  by_cases l5 : s < 5120
  · exact go _ h4 (by omega) (by omega)
  by_cases l6 : s < 6144
  · exact go _ h5 (by omega) (by omega)
  by_cases l7 : s < 7168
  · exact go _ h6 (by omega) (by omega)
  exact go _ h7 (by omega) (by omega)
theorem popF_add {m s : Nat} (h : s < 2 ^ m) : ∀ d, popF (m + d) s = popF m s
  | 0 => rfl
  | d + 1 => (popF_succ (m + d) s (Nat.lt_of_lt_of_le h (Nat.pow_le_pow_right (by omega) (by omega)))).trans (popF_add h d)
theorem pop_low13 {s m : Nat} (h : s < 2 ^ m) (hm : m ≤ 13) : pop s ≤ m := by
  have := popF_add h (64 - m)
  rw [show m + (64 - m) = 64 by omega] at this
  unfold pop; rw [this]; exact popF_le _ _
/-- The masks of OnesCount64, over numbers below 8192. -/
theorem size13_any (s : Nat) (w : World) (hs : s < 8192) :
    Calls Try.prog 78 #[.int .u64 s] w fun e w' => e = .returned (.int .i64 (pop s)) ∧ w = w' := by
  have hp : pop s = popF 13 s := popF_add (m := 13) hs 51
  rw [hp]
  clear hp
  go_enter Try.func78, Try.ntmps78
  go_wp2
  go_returns
  refine ⟨retI ?_, rfl⟩
  rename_i htrue
  clear htrue w
  revert s
  exact all13 (by decide +kernel) (by decide +kernel) (by decide +kernel) (by decide +kernel) (by decide +kernel) (by decide +kernel) (by decide +kernel) (by decide +kernel)

end Go.Proofs.Ytdacfeebidhgnaa
