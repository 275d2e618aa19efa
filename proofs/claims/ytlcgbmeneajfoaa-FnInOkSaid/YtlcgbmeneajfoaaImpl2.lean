/- PiecesIn, JoinedOk, WholeOk, RankOf, RingFreeOk of the program. -/
import Derived.Test.YtlcgbmeneajfoaaPiecesOf
import Derived.Test.YtlcgbmeneajfoaaClass
namespace Go.Proofs.Ytlcgbmeneajfoaa
open Go.RowKit
set_option maxRecDepth 100000

def piecesI (n : Int) (es : List (Int × Int)) (s : Int) : Int := if stateOkB n es s = true then (piecesB n es s : Nat) else -1
def joinedB (n : Int) (es : List (Int × Int)) (s a b : Int) : Bool := stateOkB n es s && ((decide (1 ≤ a) && decide (a ≤ n)) && ((decide (1 ≤ b) && decide (b ≤ n)) && decide (rep (endsOf es) (bits s) es.length a.toNat = rep (endsOf es) (bits s) es.length b.toNat)))
def wholeB (n : Int) (es : List (Int × Int)) (s : Int) : Bool := decide (piecesI n es s = 1)
def rankI (n : Int) (es : List (Int × Int)) (s : Int) : Int := if stateOkB n es s = true then n - (piecesB n es s : Nat) else -1
def freeB (n : Int) (es : List (Int × Int)) (s : Int) : Bool := stateOkB n es s && decide (rankI n es s = thereI n es s)
theorem stateOkB_net {n s : Int} {es : List (Int × Int)} (h : stateOkB n es s = true) : netOkB n es = true := by
  simp [stateOkB] at h; exact h.1

theorem not_state {n s : Int} {es : List (Int × Int)} (h : ¬ stateOkB n es s = true) : stateOkB n es s = false := by simpa using h

theorem piecesI_lt {n s : Int} {es : List (Int × Int)} (h : stateOkB n es s = true) : piecesI n es s = (piecesB n es s : Nat) ∧ piecesB n es s ≤ 6 := by
  have h1 := (netOkB_iff.1 (stateOkB_net h)).1
  have h2 : piecesB n es s ≤ n.toNat := pcs_le _ _ _ _
  exact ⟨by simp [piecesI, h], by omega⟩
theorem rankI_of {n s : Int} {es : List (Int × Int)} (h : stateOkB n es s = true) : rankI n es s = n - (piecesB n es s : Nat) := by simp [rankI, h]

end Go.Proofs.Ytlcgbmeneajfoaa
