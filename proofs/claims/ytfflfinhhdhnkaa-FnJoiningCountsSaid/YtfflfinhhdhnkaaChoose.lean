/- ChoicesOf of the program and of the reference. -/
import Derived.Test.YtfflfinhhdhnkaaSpecCnt
namespace Go.Proofs.Ytfflfinhhdhnkaa
open Go.RowKit
set_option maxRecDepth 100000

theorem chsOk_iff {n k : Int} : chsOkB n k = true ↔ (0 ≤ n ∧ n ≤ 20) ∧ 0 ≤ k := by
  simp only [chsOkB, Bool.and_eq_true, decide_eq_true_eq]
theorem chsI_not {n k : Int} (h : ¬ ((0 ≤ n ∧ n ≤ 20) ∧ 0 ≤ k)) : chsI n k = -1 := by
  unfold chsI; rw [if_neg]; rw [chsOk_iff]; exact h
theorem chsI_nat {n k : Nat} (h : n ≤ 20) : chsI n k = (chs n k : Nat) := by
  unfold chsI; rw [if_pos (chsOk_iff.2 (by omega))]; rfl

theorem chsL_zero : chsL 0 = [1] := by decide
theorem OwnI.two (w : World) {base : Nat} (x y : Int) (hb : base ≤ w.heap.size) : OwnI (w.alloc (.cells #[.int .i64 x, .int .i64 y] 3)) base (.slice (some ⟨w.heap.size, 0, none⟩) 2 2) [x, y] :=
  OwnI.box w [x, y] hb (by simp [maxLen])
theorem OwnI.one (w : World) {base : Nat} (x : Int) (hb : base ≤ w.heap.size) : OwnI (w.alloc (.cells #[.int .i64 x] 3)) base (.slice (some ⟨w.heap.size, 0, none⟩) 1 1) [x] :=
  OwnI.box w [x] hb (by simp [maxLen])

theorem choicesOf_any (n k : Int) (w : World) :
    Calls Try.prog 15 #[.int .i64 n, .int .i64 k] w fun e w' => e = .returned (.int .i64 (chsI n k)) ∧ Below w.heap.size w w' := by
  by_cases h1 : n < 0
  · have H : Hid (chsI n k = -1) := chsI_not (by omega)
    go_enter Try.func15, Try.ntmps15
    go_wp2_with fail
    go_returns
    exact ⟨retI H.out.symm, Below.refl _ _⟩
  · by_cases h2 : 20 < n
    · have H : Hid (chsI n k = -1) := chsI_not (by omega)
      go_enter Try.func15, Try.ntmps15
      go_wp2_with fail
      go_returns
      exact ⟨retI H.out.symm, Below.refl _ _⟩
    · by_cases h3 : k < 0
      · have H : Hid (chsI n k = -1) := chsI_not (by omega)
        go_enter Try.func15, Try.ntmps15
        go_wp2_with fail
        go_returns
        exact ⟨retI H.out.symm, Below.refl _ _⟩
      · obtain ⟨N, rfl⟩ : ∃ N : Nat, n = N := ⟨n.toNat, by omega⟩
        obtain ⟨K, rfl⟩ : ∃ K : Nat, k = K := ⟨k.toNat, by omega⟩
        have hN : N ≤ 20 := by omega
        by_cases h4 : N < K
        · have H : Hid (chsI N K = 0) := by rw [Hid, chsI_nat hN, chs_more _ _ h4]; rfl
          go_enter Try.func15, Try.ntmps15
          go_wp2_with fail
          go_returns
          exact ⟨retI H.out.symm, Below.refl _ _⟩
        · have H := Lib.hid (chsI_nat (n := N) (k := K) hN)
          go_enter Try.func15, Try.ntmps15
          go_wp2_with fail
          go_loopw [5, 21] (fun v t wr => ∃ (j : Nat) (A : Option Addr) (c : Nat), j ≤ N ∧ t = .int .i64 (j : Nat) ∧ v = .slice A (j + 1) c ∧ OwnI wr w.heap.size (.slice A (j + 1) c) (chsL j) ∧ Below w.heap.size w wr) (fun _ t _ => N - (intOf t).toNat)
          case atStart => exact ⟨0, some ⟨w.heap.size, 0, none⟩, 1, by omega, rfl, rfl, by rw [chsL_zero]; exact OwnI.one w 1 (Nat.le_refl _), (Below.refl _ _).alloc (Nat.le_refl _) _⟩
          case round =>
            obtain ⟨j, A, c, hj, rfl, rfl, own, hb⟩ := hrel
            by_cases hlt : j < N
            · have hG : ∀ (g : Nat) (u : World), IntsIn u u.heap.size A (chsL j) → IntsIn u u.heap.size (some ⟨g, 0, none⟩) [1, 1] → Calls Try.prog 46 #[.slice A (j + 1) c, .slice (some ⟨g, 0, none⟩) 2 2] u (GotInts u (chsL (j + 1))) := fun g u h1 h2 => by
                have := together_any A (some ⟨g, 0, none⟩) c 2 (chsL j) [1, 1] u h1 h2 (by rw [chsL_length]; omega) (by simp)
                rw [chsL_length, chsL_step (by omega)] at this
                exact this
              have own2 := OwnI.two wr (base := wr.heap.size) 1 1 (Nat.le_refl _)
              have own1 : OwnI (wr.alloc (.cells #[.int .i64 1, .int .i64 1] 3)) w.heap.size (.slice A (j + 1) c) (chsL j) := own.below ((Below.refl wr.heap.size wr).alloc (Nat.le_refl _) _) own.lt
              have hsz := hb.size
              have hb2 : Below w.heap.size w (wr.alloc (.cells #[.int .i64 1, .int .i64 1] 3)) := hb.alloc hsz _
              go_wp2_with fail
              refine (hG _ _ own1.ints own2.ints).mono ?_
              rintro e1 w1 ⟨A1, c1, rfl, own3, hb3⟩
              rw [chsL_length] at own3 ⊢
              go_wp2_with fail
              go_roundw
              case rel => exact ⟨j + 1, A1, c1, by omega, by go_num, rfl, own3.more (by simp; omega), hb2.trans (hb3.mono (by simp; omega))⟩
              case measure => simp [intOf]; omega
            · obtain rfl : j = N := by omega
              obtain ⟨b, off, rfl, hbb, g1⟩ := own.ints K _ (getD_some (by rw [chsL_length]; omega))
              rw [chsL_at] at g1
              go_wp2_with fail
              go_returns
              exact ⟨retI H.out.symm, hb⟩

theorem choices_is (n k z : Int) (h : chsI n k = z) (u : World) : Calls Try.prog 15 #[.int .i64 n, .int .i64 k] u fun e w' => e = .returned (.int .i64 z) ∧ Below u.heap.size u w' := by
  rw [← h]; exact choicesOf_any n k u
end Go.Proofs.Ytfflfinhhdhnkaa
