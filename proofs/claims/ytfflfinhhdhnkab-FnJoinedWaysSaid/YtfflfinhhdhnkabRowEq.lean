/- toIntS, eqIntS, sameInts, markIntS and heldIntS of the laws. -/
import Derived.Test.YtfflfinhhdhnkabRow
import Derived.Test.YtfflfinhhdhnkabEdgesAt
namespace Go.Proofs.Ytfflfinhhdhnkab
open Go.RowKit
set_option maxRecDepth 100000

theorem sameInts_self (A B : Option Addr) (c d m : Nat) (xs : List Int) (w : World) (hxs : IntsIn w w.heap.size A xs) (hys : IntsIn w w.heap.size B xs) (hm : xs.length = m) (hl : m ≤ 1048576) :
    Calls Try.prog 24 #[.slice A m c, .slice B m d] w fun e w' => e = .returned (.bool true) ∧ Below w.heap.size w w' := by
  have HM := Lib.hid hm
  clear hm
  go_enter Try.func24, Try.ntmps24
  go_wp2_with fail
  go_loopw [5] (fun i wr => ∃ k : Nat, k ≤ m ∧ i = .int .i64 k ∧ Below w.heap.size w wr) (fun i _ => m - (intOf i).toNat)
  case atStart => exact ⟨0, by omega, rfl, Below.refl _ _⟩
  case round =>
    obtain ⟨k, hk, rfl, hb⟩ := hrel
    by_cases hlt : k < m
    · have k1 : k < xs.length := by have := HM.out; omega
      obtain ⟨b, off, rfl, hbb, g1⟩ := (hxs.below hb (by omega)) k _ (List.getElem?_eq_getElem k1)
      obtain ⟨b', off', rfl, hbb', g1'⟩ := (hys.below hb (by omega)) k _ (List.getElem?_eq_getElem k1)
      clear hxs hys
      generalize xs[k] = x at *
      go_wp2_with fail
      go_quiet (fail)
      go_wp2_with fail
      go_roundw
      case rel => exact ⟨k + 1, by omega, by go_num, belowN hb _⟩
      case measure => simp [intOf]; omega
    · obtain rfl : k = m := by omega
      go_wp2_with fail
      go_returns
      exact ⟨rfl, hb⟩

def marksI (k : Int) (m : Nat) : List Int := rowL (fun i => k + (i : Int)) m
theorem marksI_length (k : Int) (m : Nat) : (marksI k m).length = m := rowL_length _ _
theorem marksI_get (k : Int) (m i : Nat) (h : i < m) : (marksI k m)[i]? = some (k + (i : Int)) := rowL_get _ h
def MarkedI (w : World) (base : Nat) (v : Value) (k : Int) (m : Nat) (e : Ending) (w' : World) : Prop :=
  e = .returned (.int .i64 (k + (m : Int))) ∧ OwnI w' base v (marksI k m) ∧ w.grownBy w' v.ownBlock

end Go.Proofs.Ytfflfinhhdhnkab
