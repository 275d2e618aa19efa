/- Boards of the program: BoardOk, TouchOk, DarkOk, LightOk. -/
import Derived.Test.YtcmomghlepmogabImpl7b
import Derived.Test.YtcmomghlepmogabImpl7c
import Derived.Test.YtcmomghlepmogabSpec7b
import Derived.Test.YtcmomghlepmogabSets
namespace Go.Proofs.Ytcmomghlepmogab
open Go.RowKit
set_option maxRecDepth 100000

theorem boardOk_any (c r : Int) (w : World) : Calls Try.prog 6 #[.int .i64 c, .int .i64 r] w fun e w' => e = .returned (.bool (boardB c r)) ∧ Below w.heap.size w w' := by
  go_enter Try.func6, Try.ntmps6
  go_wp2_with fail
  all_goals go_returns
  all_goals exact ⟨retB (by first | (simp [boardB, *]; done) | (simp [boardB, *]; omega)), Below.refl _ _⟩
end Go.Proofs.Ytcmomghlepmogab

/- Boards of the program: TouchOk, and what leads across. -/
namespace Go.Proofs.Ytcmomghlepmogab
open Go.RowKit
set_option maxRecDepth 100000

theorem touch_lt : ∀ c, c < 5 → ∀ r, r < 4 → ∀ a, a < c * r → stepsN c r tSteps (a % c : Nat) (a / c : Nat) 6 < 2 ^ (c * r) := by decide +kernel
theorem touch_at {c r a b : Nat} (hc : c < 5) (hr : r < 4) (ha : a < c * r) (hb : b < c * r) : (stepsN c r tSteps (a % c : Nat) (a / c : Nat) 6).testBit b = touchN c a b := by
  have h12 : c * r ≤ 4 * 3 := Nat.mul_le_mul (by omega) (by omega)
  rw [(touch_mask c hc r hr a ha).2 b (by omega)]; simp [hb]

end Go.Proofs.Ytcmomghlepmogab

/- Boards of the program: DarkOk, LightOk, CountDark. -/
namespace Go.Proofs.Ytcmomghlepmogab
open Go.RowKit
set_option maxRecDepth 100000

theorem not_key : ∀ S : Nat, S < 4096 → Go.bits .xor .u64 (if IntKind.u64.signed = true then -1 else IntKind.u64.max) (S : Int) = ((notU S : Nat) : Int) := by decide +kernel
theorem sum_cnt (q : Nat → Bool) (m : Nat) : ∀ s, (∀ t, t < s → pop t < m) → sumN (fun k => cntS q s k) m = cntB q s
  | 0, _ => by
    have : ∀ m, sumN (fun k => cntS q 0 k) m = 0 := fun m => by
      induction m with
      | zero => rfl
      | succ m ih => rw [sumN, ih]; rfl
    rw [this]; rfl
  | s + 1, h => by
    have ih := sum_cnt q m s (fun t ht => h t (by omega))
    have hp := h s (by omega)
    have h1 : sumN (fun k => cntS q (s + 1) k) m = sumN (fun k => cntS q s k + if q s = true ∧ pop s = k then 1 else 0) m := sumN_congr m fun k _ => cntS_succ q s k
    have h2 : ∀ m, sumN (fun k => if q s = true ∧ pop s = k then 1 else 0) m = if q s = true ∧ pop s < m then 1 else 0 := fun m => by
      induction m with
      | zero => rw [if_neg (by omega)]; rfl
      | succ m ih =>
        rw [sumN, ih]
        by_cases hq : q s = true
        · simp only [hq, true_and]
          by_cases h3 : pop s < m
          · rw [if_pos h3, if_neg (by omega), if_pos (by omega)]
          · by_cases h4 : pop s = m
            · rw [if_neg h3, if_pos h4, if_pos (by omega)]
            · rw [if_neg h3, if_neg h4, if_neg (by omega)]
        · simp [hq]
    rw [h1, sumN_add, ih, h2, cntB_succ]
    congr 1
    by_cases hq : q s = true
    · rw [if_pos ⟨hq, hp⟩, if_pos hq]
    · rw [if_neg (fun e => hq e.1), if_neg hq]
end Go.Proofs.Ytcmomghlepmogab

/- Boards of the program: CountDark. -/
namespace Go.Proofs.Ytcmomghlepmogab
open Go.RowKit
set_option maxRecDepth 100000

/-- A row held in a cell of its own. -/
structure RowBox (u : World) (g b l c : Nat) (xs : List Int) : Prop where
  k0 : u.cell? ⟨g, 0, none⟩ = some (.slice (some ⟨b, 0, none⟩) l c)
  i0 : IntsIn u u.heap.size (some ⟨b, 0, none⟩) xs
  lt : g < u.heap.size
theorem RowBox.later {u u' : World} {g b l c : Nat} {xs : List Int} (h : RowBox u g b l c xs) (hb : Below u.heap.size u u') : RowBox u' g b l c xs :=
  ⟨(hb.cell h.lt).trans h.k0, (h.i0.below hb (Nat.le_refl _)).more hb.size, Nat.lt_of_lt_of_le h.lt hb.size⟩
theorem GotInts.rowAt {w w' : World} {m : Nat} {xs : List Int} {e : Ending} (hl : xs.length = m + 1) (h : GotInts w xs e w') : ∃ g c, e = .returned (.slice (some ⟨g, 0, none⟩) (m + 1 : Nat) c) ∧ OwnI w' w.heap.size (.slice (some ⟨g, 0, none⟩) (m + 1) c) xs ∧ Below w.heap.size w w' := by
  obtain ⟨A, k, rfl, own, hb⟩ := h
  rw [hl] at own ⊢
  rcases own.form with ⟨_, h0⟩ | ⟨g, k', hv, _, _⟩
  · rw [h0] at hl; simp at hl
  · injection hv with hA _ hc
    subst hA
    exact ⟨g, k, rfl, own, hb⟩

end Go.Proofs.Ytcmomghlepmogab
