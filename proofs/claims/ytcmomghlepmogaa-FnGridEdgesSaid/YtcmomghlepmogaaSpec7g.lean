/- Grids of the reference: CountLeads. -/
import Derived.Test.YtcmomghlepmogaaSpec7f
namespace Go.Proofs.Ytcmomghlepmogaa
open Go.RowKit
set_option maxRecDepth 100000

def cntLL (c r : Int) : List Int := if gridOkB c r = true then (tabL c.toNat r.toNat).map Int.ofNat else []
theorem cntLL_len {C R : Nat} (hc : 2 ≤ C ∧ C ≤ 4) (hr : 1 ≤ R ∧ R ≤ 3) : ((tabL C R).map Int.ofNat).length = gridE C R + 1 := by rw [← leads_row hc hr, cntR_length]

theorem cntLL_le (c r : Int) : (cntLL c r).length ≤ 14 := by
  unfold cntLL
  split
  next h =>
    obtain ⟨C, R, rfl, rfl, hc, hr⟩ := grid_nat h
    have e := cntLL_len hc hr
    have := (grid_edges hc hr).2.2
    rw [show ((C : Nat) : Int).toNat = C from rfl, show ((R : Nat) : Int).toNat = R from rfl, e]
    omega
  next => simp

end Go.Proofs.Ytcmomghlepmogaa
