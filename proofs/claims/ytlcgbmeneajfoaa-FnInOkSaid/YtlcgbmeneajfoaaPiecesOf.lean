/- piecesOf of the program, and the functions that call it: PiecesIn, JoinedOk, WholeOk, RankOf, RingFreeOk. -/
import Derived.Test.YtlcgbmeneajfoaaArr
import Derived.Test.YtlcgbmeneajfoaaEdgesAt
namespace Go.Proofs.Ytlcgbmeneajfoaa
open Go.RowKit
set_option maxRecDepth 100000

def endsOf (es : List (Int × Int)) (i : Nat) : Nat × Nat := match es[i]? with
  | some e => (e.1.toNat, e.2.toNat)
  | none => (0, 0)
def bits (s : Int) (i : Nat) : Bool := s.toNat.testBit i
theorem endsOf_get {es : List (Int × Int)} {i : Nat} (h : i < es.length) : endsOf es i = (es[i].1.toNat, es[i].2.toNat) := by simp [endsOf, h]
theorem endsOf_ok {n : Int} {es : List (Int × Int)} (h : netOkB n es = true) : EndsOk (endsOf es) es.length n.toNat := by
  intro i hi
  have h1 := netOkB_iff.1 h
  have h2 := h1.2.2 es[i] (List.getElem_mem hi)
  rw [endsOf_get hi]
  simp only
  omega
/-- How many pieces there are; which node stands for one. -/
def piecesB (n : Int) (es : List (Int × Int)) (s : Int) : Nat := pcs (endsOf es) (bits s) es.length n.toNat

theorem fits_ends {n : Int} {es : List (Int × Int)} (h : netOkB n es = true) {k : Nat} (hk : k < es.length) :
    ∃ a b : Nat, es[k] = ((a : Int), (b : Int)) ∧ endsOf es k = (a, b) ∧ 1 ≤ a ∧ 1 ≤ b ∧ a < 7 ∧ b < 7 ∧ a ≤ n.toNat ∧ b ≤ n.toNat := by
  have h1 := netOkB_iff.1 h
  have h2 := h1.2.2 es[k] (List.getElem_mem hk)
  refine ⟨es[k].1.toNat, es[k].2.toNat, ?_, endsOf_get hk, by omega, by omega, by omega, by omega, by omega, by omega⟩
  apply Prod.ext <;> simp only <;> omega

end Go.Proofs.Ytlcgbmeneajfoaa
