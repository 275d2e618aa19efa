/- Chances of the program: ChanceOk and countsOk. -/
import Derived.Test.YtfflfinhhdhnkabChance
import Derived.Test.YtfflfinhhdhnkabImplCnt
namespace Go.Proofs.Ytfflfinhhdhnkab
open Go.RowKit
set_option maxRecDepth 100000

theorem allParts_any (m : Int) (w : World) :
    Calls Try.prog 37 #[.int .i64 m] w fun e w' => e = .returned (.bool (decide (1 ≤ m ∧ m ≤ 5))) ∧ w = w' := by
  by_cases h1 : (1 : Int) ≤ m
  · by_cases h2 : m ≤ 5
    · have HD : Hid (decide (1 ≤ m ∧ m ≤ 5) = true) := by simp [Hid, h1, h2]
      go_enter Try.func37, Try.ntmps37
      go_wp2_with fail
      go_returns
      exact ⟨retB (by rw [HD.out]), rfl⟩
    · go_enter Try.func37, Try.ntmps37
      go_wp2_with fail
      go_returns
      exact ⟨retB (by simp; omega), rfl⟩
  · go_enter Try.func37, Try.ntmps37
    go_wp2_with fail
    go_returns
    exact ⟨retB (by simp; omega), rfl⟩

theorem chance_any (p m : Int) (w : World) :
    Calls Try.prog 66 #[.int .i64 p, .int .i64 m] w fun e w' => e = .returned (.bool (chanceB p m)) ∧ w = w' := by
  by_cases h : 1 ≤ m ∧ m ≤ 5
  · have HM : Hid (decide (1 ≤ m ∧ m ≤ 5) = true) := by simpa [Hid] using h
    by_cases h1 : (0 : Int) ≤ p
    · have h2 : Hid (chanceB p m = decide (p ≤ m)) := by rw [Hid, Bool.eq_iff_iff, chanceB_iff]; simp; omega
      clear h
      go_enter Try.func66, Try.ntmps66
      go_wp2_with fail
      refine (allParts_any _ _).mono ?_
      rintro e1 w1 ⟨rfl, rfl⟩
      rw [HM.out]
      go_wp2_with fail
      go_returns
      exact ⟨retB h2.out.symm, rfl⟩
    · have h2 : Hid (chanceB p m = false) := chanceB_not.2 (by omega)
      clear h
      go_enter Try.func66, Try.ntmps66
      go_wp2_with fail
      refine (allParts_any _ _).mono ?_
      rintro e1 w1 ⟨rfl, rfl⟩
      rw [HM.out]
      go_wp2_with fail
      go_returns
      exact ⟨retB h2.out.symm, rfl⟩
  · have HM : Hid (decide (1 ≤ m ∧ m ≤ 5) = false) := by simpa [Hid] using h
    have h2 : Hid (chanceB p m = false) := chanceB_not.2 (by omega)
    clear h
    go_enter Try.func66, Try.ntmps66
    go_wp2_with fail
    refine (allParts_any _ _).mono ?_
    rintro e1 w1 ⟨rfl, rfl⟩
    rw [HM.out]
    go_wp2_with fail
    go_returns
    exact ⟨retB h2.out.symm, rfl⟩
theorem chance_is (p m : Int) (b : Bool) (h : chanceB p m = b) (w : World) :
    Calls Try.prog 66 #[.int .i64 p, .int .i64 m] w fun e w' => e = .returned (.bool b) ∧ w = w' := h ▸ chance_any p m w
theorem chanceOk_any (p m : Int) (w : World) :
    Calls Try.prog 66 #[.int .i64 p, .int .i64 m] w fun e w' => e = .returned (.bool (chanceB p m)) ∧ Below w.heap.size w w' :=
  (chance_any p m w).mono fun _ _ ⟨he, hb⟩ => ⟨he, hb ▸ Below.refl _ _⟩

def countsB (xs : List Int) : Bool := decide (1 ≤ xs.length ∧ xs.length ≤ 10) && rowB xs
theorem waysB_counts (xs : List Int) (p m : Int) : waysB xs p m = (countsB xs && chanceB p m) := by
  unfold waysB countsB; rw [Bool.and_comm]
theorem countsOk_any (A : Option Addr) (c : Nat) (xs : List Int) (w : World) (hxs : IntsIn w w.heap.size A xs) (hl : xs.length ≤ 1048576) :
    Calls Try.prog 65 #[.slice A xs.length c] w fun e w' => e = .returned (.bool (countsB xs)) ∧ w = w' := by
  by_cases h1 : xs.length < 1
  · have HC : Hid (countsB xs = false) := by unfold Hid countsB; rw [Bool.and_eq_false_iff]; left; simp; omega
    go_enter Try.func65, Try.ntmps65
    go_wp2_with fail
    go_returns
    exact ⟨retB HC.out.symm, rfl⟩
  · by_cases h2 : 10 < xs.length
    · have HC : Hid (countsB xs = false) := by unfold Hid countsB; rw [Bool.and_eq_false_iff]; left; simp; omega
      have i1 : (decide ((xs.length : Int) < 1)) = false := by simp; omega
      have i2 : (decide ((10 : Int) < xs.length)) = true := by simp; omega
      go_enter Try.func65, Try.ntmps65
      go_wp2_with fail
      go_returns
      exact ⟨retB HC.out.symm, rfl⟩
    · have HC : Hid (countsB xs = rowB xs) := by unfold Hid countsB; rw [show decide (1 ≤ xs.length ∧ xs.length ≤ 10) = true by simp; omega, Bool.true_and]
      have HOK : Hid ((∀ j, j < xs.length → 0 ≤ xs.getD j 0 ∧ xs.getD j 0 ≤ 1000) → rowB xs = true) := fun h => rowB_iff.2 h
      have HBAD : Hid (∀ j, j < xs.length → ¬ (0 ≤ xs.getD j 0 ∧ xs.getD j 0 ≤ 1000) → rowB xs = false) := fun j hj h => by
        rw [Bool.eq_false_iff]; exact fun hr => h (rowB_iff.1 hr j hj)
      obtain ⟨l, hl2⟩ : ∃ l, xs.length = l := ⟨_, rfl⟩
      rw [hl2] at HOK HBAD h1 h2 ⊢
      have HL := Lib.hid hl2
      clear hl hl2
      go_enter Try.func65, Try.ntmps65
      go_wp2_with fail
      go_loopw [15] (fun i wr => ∃ k : Nat, k ≤ l ∧ i = .int .i64 (k : Nat) ∧ Hid (∀ j, j < k → 0 ≤ xs.getD j 0 ∧ xs.getD j 0 ≤ 1000) ∧ wr = w) (fun i _ => l - (intOf i).toNat)
      case atStart => exact ⟨0, by omega, rfl, fun j hj => by omega, rfl⟩
      case round =>
        obtain ⟨k, hk, rfl, HG, rfl⟩ := hrel
        by_cases hlt : k < l
        · have k1 : k < xs.length := by have := HL.out; omega
          obtain ⟨b, off, rfl, hbb, g1⟩ := hxs k _ (ints_at k1)
          have HB := Lib.hid (HBAD.out k hlt)
          have HGN : Hid ((0 ≤ xs.getD k 0 ∧ xs.getD k 0 ≤ 1000) → ∀ j, j < k + 1 → 0 ≤ xs.getD j 0 ∧ xs.getD j 0 ≤ 1000) := fun h j hj => by
            by_cases e : j = k
            · subst e; exact h
            · exact HG.out j (by omega)
          have ik : (k : Int) < (l : Int) := by omega
          generalize xs.getD k 0 = x at *
          by_cases hx0 : x < 0
          · have HZ := Lib.hid (HB.out (by omega))
            clear HB HGN HG
            go_wp2_with fail
            go_returns
            exact ⟨retB (by rw [HC.out, HZ.out]), by first | rfl | trivial⟩
          · by_cases hx1 : 1000 < x
            · have HZ := Lib.hid (HB.out (by omega))
              clear HB HGN HG
              go_wp2_with fail
              go_returns
              exact ⟨retB (by rw [HC.out, HZ.out]), by first | rfl | trivial⟩
            · have HZ := Lib.hid (HGN.out (by omega))
              clear HB HGN HG
              go_wp2_with fail
              go_roundw
              case rel => exact ⟨k + 1, by omega, by go_num, HZ.out, by first | rfl | trivial⟩
              case measure => simp [intOf]; omega
        · obtain rfl : k = l := by omega
          have HZ := Lib.hid (HOK.out HG.out)
          go_wp2_with fail
          go_returns
          exact ⟨retB (by rw [HC.out, HZ.out]), by first | rfl | trivial⟩
end Go.Proofs.Ytfflfinhhdhnkab
