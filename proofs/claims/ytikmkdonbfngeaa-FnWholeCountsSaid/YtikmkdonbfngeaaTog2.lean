/- BothOf of the reference; ChoicesOf of the program and of the reference. -/
import Derived.Test.YtikmkdonbfngeaaTog
namespace Go.Proofs.Ytikmkdonbfngeaa
open Go.RowKit
set_option maxRecDepth 100000

theorem OwnI.empty (w : World) {base : Nat} (hb : base ≤ w.heap.size) : OwnI (w.alloc (.cells #[] 3)) base (.slice (some ⟨w.heap.size, 0, none⟩) 0 0) [] :=
  OwnI.box w [] hb (by simp)

set_option maxHeartbeats 4000000 in
theorem specBothOf_any (A B : Option Addr) (c d : Nat) (xs ys : List Int) (w : World) (hxs : IntsIn w w.heap.size A xs) (hys : IntsIn w w.heap.size B ys) :
    Calls Try.prog 41 #[.slice A xs.length c, .slice B ys.length d] w (GotInts w (bothL xs ys)) := by
  have low : ∀ n : Nat, (decide ((1 : Int) ≤ (n : Int)) && decide ((n : Int) ≤ 30)) = lenOkB n := fun n => by
    rw [Bool.eq_iff_iff]; simp only [lenOkB, Bool.and_eq_true, decide_eq_true_eq]; omega
  cases hx : lenOkB xs.length with
  | false =>
    have HB : Hid (bothL xs ys = []) := by simp [Hid, bothL, bothOk_len, hx]
    have HX := Lib.hid hx
    clear hx
    go_enter Try.func41, Try.ntmps41
    go_wp2_with fail
    refine (l1In_any _ _ _ _).mono ?_
    rintro e1 w1 ⟨rfl, rfl⟩
    rw [low, HX.out]
    go_wp2_with fail
    go_returns
    exact ⟨some ⟨w.heap.size, 0, none⟩, 0, by rw [HB.out]; rfl, by rw [HB.out]; exact OwnI.empty w (Nat.le_refl _), (Below.refl _ _).alloc (Nat.le_refl _) _⟩
  | true =>
    have HX := Lib.hid hx
    cases hy : lenOkB ys.length with
    | false =>
      have HB : Hid (bothL xs ys = []) := by simp [Hid, bothL, bothOk_len, hx, hy]
      have HY := Lib.hid hy
      clear hx hy
      go_enter Try.func41, Try.ntmps41
      go_wp2_with fail
      refine (l1In_any _ _ _ _).mono ?_
      rintro e1 w1 ⟨rfl, rfl⟩
      rw [low, HX.out]
      go_wp2_with fail
      refine (l1In_any _ _ _ _).mono ?_
      rintro e2 w2 ⟨rfl, rfl⟩
      rw [low, HY.out]
      go_wp2_with fail
      go_returns
      exact ⟨some ⟨w.heap.size, 0, none⟩, 0, by rw [HB.out]; rfl, by rw [HB.out]; exact OwnI.empty w (Nat.le_refl _), (Below.refl _ _).alloc (Nat.le_refl _) _⟩
    | true =>
      have HB : Hid (bothL xs ys = togL xs ys) := by simp [Hid, bothL, bothOk_len, hx, hy]
      have HY := Lib.hid hy
      simp only [lenOkB, Bool.and_eq_true, decide_eq_true_eq] at hx hy
      obtain ⟨i0, hi0, hz0, hz1, hz2⟩ := info_parts int_info
      obtain ⟨n, hn⟩ : ∃ n, xs.length = n := ⟨_, rfl⟩
      obtain ⟨m, hm⟩ : ∃ m, ys.length = m := ⟨_, rfl⟩
      obtain ⟨s, hs⟩ : ∃ s, n + m - 1 = s := ⟨_, rfl⟩
      rw [hn] at hx HX ⊢
      rw [hm] at hy HY ⊢
      have HN := Lib.hid hn
      have HM := Lib.hid hm
      clear hn hm
      have ws : IntKind.i64.wrap ((n : Int) + (m : Int)) = (n : Int) + (m : Int) := IntWalk.i64_in _ (by omega)
      have wt : IntKind.i64.wrap ((n : Int) + (m : Int) - 1) = (s : Int) := by rw [IntWalk.i64_in _ (by omega)]; omega
      go_enter Try.func41, Try.ntmps41
      go_wp2_with fail
      refine (l1In_any _ _ _ _).mono ?_
      rintro e1 w1 ⟨rfl, rfl⟩
      rw [low, HX.out]
      go_wp2_with fail
      refine (l1In_any _ _ _ _).mono ?_
      rintro e2 w2 ⟨rfl, rfl⟩
      rw [low, HY.out]
      go_wp2_with (at_make; refine wpList_make_full _ rfl _ _ 28 rfl w.heap.size 3 i0 _ 1 Try.underlying28 hi0 hz0 hz1 .i64 .i64 s s s rfl rfl rfl rfl (by rw [hz2]; omega) (by simp [maxLen]; omega) (Nat.le_refl _) ?_; intro w1 hown1 hg1)
      have hst : OwnI w1 w.heap.size (.slice (some ⟨w.heap.size, 0, none⟩) s s) (rowL (bothR xs ys 0) s) := by
        have e : rowL (bothR xs ys 0) s = List.replicate s 0 := (rowL_zero s).symm
        rw [e]
        unfold OwnI; rw [List.length_replicate, ← madeCells_ints]; exact hown1
      have hb1 : Below w.heap.size w w1 := (Below.refl _ _).grown hg1 (Nat.le_refl _) (by simp)
      clear hown1 hg1 hz1 hz2 hi0 hz0
      go_wp2_with fail
      go_loopw [6, 7] (fun k _ wr => ∃ i : Nat, i ≤ n ∧ k = .int .i64 (i : Nat) ∧ OwnI wr w.heap.size (.slice (some ⟨w.heap.size, 0, none⟩) s s) (rowL (bothR xs ys i) s) ∧ Below w.heap.size w wr) (fun k _ _ => n - (intOf k).toNat)
      case atStart => exact ⟨0, by omega, rfl, hst, hb1⟩
      case round =>
        clear hst hb1
        obtain ⟨i, hi, rfl, own, hb⟩ := hrel
        by_cases hlt : i < n
        · have i1 : i < xs.length := by have := HN.out; omega
          obtain ⟨b, off, rfl, hbb, g1⟩ := hxs i _ (getD_some i1)
          have HR : Hid (bothR xs ys (i + 1) = addR (xs.getD i 0) ys i (bothR xs ys i) m) := by rw [Hid, ← HM.out]; rfl
          generalize xs.getD i 0 = t at *
          go_wp2_with fail
          go_loopw [7] (fun k wr => ∃ j : Nat, j ≤ m ∧ k = .int .i64 (j : Nat) ∧ OwnI wr w.heap.size (.slice (some ⟨w.heap.size, 0, none⟩) s s) (rowL (addR t ys i (bothR xs ys i) j) s) ∧ Below w.heap.size w wr) (fun k _ => m - (intOf k).toNat)
          case atStart => exact ⟨0, by omega, rfl, own, hb⟩
          case round =>
            clear own hb
            obtain ⟨j, hj, rfl, own, hb⟩ := hrel
            by_cases hlt2 : j < m
            · have j1 : j < ys.length := by have := HM.out; omega
              obtain ⟨b', off', rfl, hbb', g2⟩ := (hys.below hb (Nat.le_refl _)) j _ (getD_some j1)
              have g1' := (hb.cell (p := ⟨b, off + i, none⟩) hbb).trans g1
              obtain ⟨c1, f1⟩ := own.slot (k := i + j) (by omega)
              rw [rowL_getD _ (by omega)] at c1
              have hst := own.store (i + j) (addR t ys i (bothR xs ys i) (j + 1) (i + j))
              rw [rowL_set] at hst
              have e1 : updI (addR t ys i (bothR xs ys i) j) (i + j) (addR t ys i (bothR xs ys i) (j + 1) (i + j)) = addR t ys i (bothR xs ys i) (j + 1) := by
                simp only [addR, updI, if_true]
              have e2 : addR t ys i (bothR xs ys i) (j + 1) (i + j) = IntKind.i64.wrap (addR t ys i (bothR xs ys i) j (i + j) + IntKind.i64.wrap (t * ys.getD j 0)) := by simp only [addR, updI, if_true]
              rw [e1] at hst
              rw [e2] at hst
              have HS := Lib.hid hst
              clear own hst e1 e2 hxs hys
              generalize ys.getD j 0 = y at *
              generalize addR t ys i (bothR xs ys i) j (i + j) = q at *
              obtain ⟨X, hX⟩ : ∃ X, IntKind.i64.wrap (t * y) = X := ⟨_, rfl⟩
              obtain ⟨Y, hY⟩ : ∃ Y, IntKind.i64.wrap (q + X) = Y := ⟨_, rfl⟩
              rw [hX, hY] at HS
              have wi : IntKind.i64.wrap ((i : Int) + (j : Int)) = ((i + j : Nat) : Int) := IntWalk.i64_in _ (by omega)
              go_wp2_with fail
              go_region
              go_wp2_with fail
              go_roundw
              case rel => exact ⟨j + 1, by omega, by go_num, HS.out.drew, (hb.setCell (Nat.le_refl _) _).drew⟩
              case measure => simp [intOf]; omega
            · obtain rfl : j = m := by omega
              rw [← HR.out] at own
              go_wp2_with fail
              go_roundw
              case rel => exact ⟨i + 1, by omega, by go_num, own, hb⟩
              case measure => simp [intOf]; omega
        · obtain rfl : i = n := by omega
          have e : rowL (bothR xs ys i) s = togL xs ys := by unfold togL; rw [HN.out, HM.out, hs]
          have HL : Hid ((togL xs ys).length = s) := by rw [Hid, togL_length, HN.out, HM.out, hs]
          rw [e] at own
          go_wp2_with fail
          go_returns
          exact ⟨some ⟨w.heap.size, 0, none⟩, s, by rw [HB.out, HL.out]; rfl, by rw [HB.out, HL.out]; exact own, hb⟩
end Go.Proofs.Ytikmkdonbfngeaa
