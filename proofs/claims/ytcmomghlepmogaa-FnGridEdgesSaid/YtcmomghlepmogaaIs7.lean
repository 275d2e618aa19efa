/- Chapter 7's functions at known values. -/
import Derived.Test.YtcmomghlepmogaaImpl7g
import Derived.Test.YtcmomghlepmogaaImpl7k
import Derived.Test.YtcmomghlepmogaaSpec7g
namespace Go.Proofs.Ytcmomghlepmogaa
open Go.RowKit
set_option maxRecDepth 100000

theorem gridOk_is (c r : Int) (v : Bool) (h : gridOkB c r = v) (w : World) : Calls Try.prog 8 #[.int .i64 c, .int .i64 r] w fun e w' => e = .returned (.bool v) ∧ Below w.heap.size w w' := h ▸ gridOk_any c r w
theorem gridEdges_is (c r v : Int) (h : gridEI c r = v) (w : World) : Calls Try.prog 12 #[.int .i64 c, .int .i64 r] w fun e w' => e = .returned (.int .i64 v) ∧ Below w.heap.size w w' := h ▸ gridEdges_any c r w
theorem sGridOk_is (c r : Int) (v : Bool) (h : gridOkB c r = v) (w : World) : Calls Try.prog 9 #[.int .i64 c, .int .i64 r] w fun e w' => e = .returned (.bool v) ∧ Below w.heap.size w w' := h ▸ (specGridOk_any c r w).mono fun _ _ h => ⟨h.1, h.2 ▸ Below.refl _ _⟩
theorem sGridEdges_is (c r v : Int) (h : gridEI c r = v) (w : World) : Calls Try.prog 13 #[.int .i64 c, .int .i64 r] w fun e w' => e = .returned (.int .i64 v) ∧ Below w.heap.size w w' := h ▸ (specGridEdges_any c r w).mono fun _ _ h => ⟨h.1, h.2 ▸ Below.refl _ _⟩
theorem state_off {s c r : Int} (h : stateB s c r = false) : darkI s c r = false ∧ lightI s c r = false := by simp [darkI, lightI, h]
theorem edge_off {s c r : Int} (h : edgeB s c r = false) : leadsI s c r = false ∧ passesI s c r = false := by simp [leadsI, passesI, h]
theorem state_on {C R S : Nat} (hB : boardB C R = true) (hS : S < 2 ^ (C * R)) : stateB S C R = true := by
  unfold stateB
  rw [hB, show ((C : Nat) : Int).toNat = C from rfl, show ((R : Nat) : Int).toNat = R from rfl, inB_of hS]; rfl
theorem dark_on {C R S : Nat} (hB : boardB C R = true) (hS : S < 2 ^ (C * R)) : darkI S C R = darkN C R S ∧ lightI S C R = lightN C R S := by
  unfold darkI lightI
  rw [state_on hB hS]; exact ⟨rfl, rfl⟩
theorem edge_on {C R S : Nat} (hB : gridOkB C R = true) (hS : S < 2 ^ gridE C R) : leadsI S C R = leadsN C R S ∧ passesI S C R = passesN C R S := by
  have h : edgeB S C R = true := by
    unfold edgeB
    rw [hB, show ((C : Nat) : Int).toNat = C from rfl, show ((R : Nat) : Int).toNat = R from rfl, inB_of hS]; rfl
  unfold leadsI passesI
  rw [h]; exact ⟨rfl, rfl⟩
theorem less_bit (S k i : Nat) : (S - (S &&& 2 ^ k)).testBit i = true → S.testBit i = true := fun h => by
  rw [less_and, Bool.and_eq_true] at h; exact h.1
theorem more_bit (S k i : Nat) (h : S.testBit i = true) : (S ||| 2 ^ k).testBit i = true := by rw [Nat.testBit_or, h]; rfl
theorem light_ends {c r : Nat} (hc : 1 ≤ c ∧ c ≤ 4) (hr : 1 ≤ r ∧ r ≤ 3) : lightN c r 0 = true ∧ lightN c r (2 ^ (c * r) - 1) = false := by
  have h : ∀ c, c < 5 → ∀ r, r < 4 → 1 ≤ c → 1 ≤ r → lightN c r 0 = true ∧ lightN c r (2 ^ (c * r) - 1) = false := by decide +kernel
  exact h c (by omega) r (by omega) hc.1 hr.1
theorem pass_ends {w h : Nat} (hw : 2 ≤ w ∧ w ≤ 4) (hh : 1 ≤ h ∧ h ≤ 3) : passesN w h 0 = true ∧ passesN w h (2 ^ gridE w h - 1) = false := by
  have H : ∀ w, w < 5 → ∀ h, h < 4 → 2 ≤ w → 1 ≤ h → passesN w h 0 = true ∧ passesN w h (2 ^ gridE w h - 1) = false := by decide +kernel
  exact H w (by omega) h (by omega) hw.1 hh.1
end Go.Proofs.Ytcmomghlepmogaa
