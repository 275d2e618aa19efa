/- ascend of the laws; a call that gives back a list of states. -/
import Derived.Test.YtlcgbmeneajfoabObj
import Derived.Test.YtlcgbmeneajfoabImpl4
namespace Go.Proofs.Ytlcgbmeneajfoab
open Go.RowKit
set_option maxRecDepth 100000

theorem ascend_any (A : Option Addr) (c m : Nat) (xs : List Nat) (w : World) (hxs : IntsIn w w.heap.size A (natI xs)) (hm : xs.length = m) (hl : m ≤ 1048576) (hs : ∀ k, k + 1 < m → xs.getD k 0 < xs.getD (k + 1) 0) :
    Calls Try.prog 51 #[.slice A m c] w fun e w' => e = .returned (.bool true) ∧ Below w.heap.size w w' := by
  have HM := Lib.hid hm
  have HS := Lib.hid hs
  clear hm hs
  go_enter Try.func51, Try.ntmps51
  go_wp2_with fail
  go_loopw [3] (fun i wr => ∃ k : Nat, k + 1 ≤ m + 1 ∧ i = .int .i64 ((k + 1 : Nat) : Int) ∧ Below w.heap.size w wr) (fun i _ => m - (intOf i).toNat)
  case atStart => exact ⟨0, by omega, rfl, Below.refl _ _⟩
  case round =>
    obtain ⟨k, hk, rfl, hb⟩ := hrel
    by_cases hlt : k + 1 < m
    · have k0 : k < xs.length := by have := HM.out; omega
      have k1 : k + 1 < xs.length := by have := HM.out; omega
      obtain ⟨b, off, rfl, hbb, g0⟩ := (hxs.below hb (by omega)) k _ (natI_at k0)
      obtain ⟨b', off', e, hbb', g1⟩ := (hxs.below hb (by omega)) (k + 1) _ (natI_at k1)
      injection e with e
      injection e with e1 e2
      subst e1 e2
      have hlt2 := HS.out k hlt
      clear hxs
      generalize xs.getD k 0 = x at *
      generalize xs.getD (k + 1) 0 = y at *
      have wk : IntKind.i64.wrap (((k + 1 : Nat) : Int) - 1) = (k : Int) := by rw [IntWalk.i64_in _ (by omega)]; omega
      have wk2 : IntKind.i64.wrap ((k : Int) + 1 - 1) = (k : Int) := by rw [IntWalk.i64_in _ (by omega)]; omega
      have i1 : (k : Int) < (m : Int) := by omega
      have d1 : decide ((y : Int) ≤ (x : Int)) = false := by simp; omega
      have d2 : decide (y ≤ x) = false := by simp; omega
      go_wp2_with fail
      go_quiet (fail)
      go_wp2_with fail
      go_roundw
      case rel => exact ⟨k + 1, by omega, by go_num, belowN hb _⟩
      case measure => simp [intOf]; omega
    · go_wp2_with fail
      go_returns
      exact ⟨rfl, hb⟩

/-- A call gives back a list of m states. -/
def GotN (w : World) (m : Nat) (xs : List Nat) (e : Ending) (w' : World) : Prop :=
  ∃ A c, e = .returned (.slice A m c) ∧ OwnI w' w.heap.size (.slice A m c) (natI xs) ∧ Below w.heap.size w w'
theorem GotInts.states {w w' : World} {m : Nat} {xs : List Nat} {e : Ending} (hm : xs.length = m) (h : GotInts w (natI xs) e w') : GotN w m xs e w' := by
  subst hm
  obtain ⟨A, c, rfl, own, hb⟩ := h
  rw [natI_length] at own ⊢
  exact ⟨A, c, rfl, own, hb⟩
theorem tmod_nn (o P : Nat) : (o : Int).tmod (P : Int) = ((o % P : Nat) : Int) := by
  rw [Int.tmod_eq_emod_of_nonneg (Int.natCast_nonneg _)]; rfl
end Go.Proofs.Ytlcgbmeneajfoab
