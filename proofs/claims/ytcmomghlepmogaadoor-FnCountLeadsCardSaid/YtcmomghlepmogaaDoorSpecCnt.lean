/- BothOf of the program and of the reference; and what they are made of. -/
import Derived.Test.YtcmomghlepmogaaDoorBothL
import Derived.Test.YtcmomghlepmogaaDoorRowEq
import Derived.Test.YtcmomghlepmogaaDoorImpl2
import Derived.Test.YtcmomghlepmogaaDoorSpec2
namespace Go.Proofs.YtcmomghlepmogaaDoor
open Go.RowKit
set_option maxRecDepth 100000

theorem getD_some {xs : List Int} {k : Nat} (h : k < xs.length) : xs[k]? = some (xs.getD k 0) := by simp [List.getD, h]

theorem addShifted_any (g base n c i m d : Nat) (B : Option Addr) (t : Int) (bs : List Int) (p : Nat → Int) (w : World) (own : OwnI w base (.slice (some ⟨g, 0, none⟩) n c) (rowL p n))
    (hbs : IntsIn w g B bs) (hm : bs.length = m) (hn : i + m ≤ n) (hn2 : n ≤ 100) :
    Calls Tryd.prog 66 #[.slice (some ⟨g, 0, none⟩) n c, .int .i64 i, .slice B m d, .int .i64 t] w fun e w' => e = .returned (.tuple #[]) ∧
      OwnI w' base (.slice (some ⟨g, 0, none⟩) n c) (rowL (addR t bs i p m) n) ∧ Below g w w' := by
  have HM := Lib.hid hm
  clear hm
  go_enter Tryd.func66, Tryd.ntmps66
  go_wp2_with fail
  go_loopw [8, 9, 12] (fun _ _ k wr => ∃ j : Nat, j ≤ m ∧ k = .int .i64 (j : Nat) ∧ OwnI wr base (.slice (some ⟨g, 0, none⟩) n c) (rowL (addR t bs i p j) n) ∧ Below g w wr) (fun _ _ k _ => m - (intOf k).toNat)
  case atStart => exact ⟨0, by omega, rfl, own, Below.refl _ _⟩
  case round =>
    clear own
    obtain ⟨j, hj, rfl, own, hb⟩ := hrel
    by_cases hlt : j < m
    · have j1 : j < bs.length := by have := HM.out; omega
      obtain ⟨b, off, rfl, hbb, g1⟩ := (hbs.below hb (Nat.le_refl _)) j _ (getD_some j1)
      obtain ⟨c1, f1⟩ := own.slot (k := i + j) (by omega)
      rw [rowL_getD _ (by omega)] at c1
      have hst := own.store (i + j) (addR t bs i p (j + 1) (i + j))
      rw [rowL_set] at hst
      have e1 : updI (addR t bs i p j) (i + j) (addR t bs i p (j + 1) (i + j)) = addR t bs i p (j + 1) := by
        simp only [addR, updI, if_true]
      have e2 : addR t bs i p (j + 1) (i + j) = IntKind.i64.wrap (addR t bs i p j (i + j) + IntKind.i64.wrap (t * bs.getD j 0)) := by simp only [addR, updI, if_true]
      rw [e1] at hst
      rw [e2] at hst
      have HS := Lib.hid hst
      clear own hst e1 e2 hbs
      generalize bs.getD j 0 = y at *
      generalize addR t bs i p j (i + j) = q at *
      obtain ⟨X, hX⟩ : ∃ X, IntKind.i64.wrap (t * y) = X := ⟨_, rfl⟩
      obtain ⟨Y, hY⟩ : ∃ Y, IntKind.i64.wrap (q + X) = Y := ⟨_, rfl⟩
      rw [hX, hY] at HS
      have wi : IntKind.i64.wrap ((i : Int) + (j : Int)) = ((i + j : Nat) : Int) := IntWalk.i64_in _ (by omega)
      go_wp2_with fail
      go_roundw
      case rel => exact ⟨j + 1, by omega, by go_num, HS.out, hb.setCell (Nat.le_refl _) _⟩
      case measure => simp [intOf]; omega
    · obtain rfl : j = m := by omega
      go_wp2_with fail
      go_end0
      exact ⟨rfl, own, hb⟩

theorem together_any (A B : Option Addr) (c d : Nat) (xs ys : List Int) (w : World) (hxs : IntsIn w w.heap.size A xs) (hys : IntsIn w w.heap.size B ys)
    (h1 : 1 ≤ xs.length ∧ xs.length ≤ 30) (h2 : 1 ≤ ys.length ∧ ys.length ≤ 30) :
    Calls Tryd.prog 50 #[.slice A xs.length c, .slice B ys.length d] w (GotInts w (togL xs ys)) := by
  obtain ⟨i0, hi0, hz0, hz1, hz2⟩ := info_parts int_info
  obtain ⟨n, hn⟩ : ∃ n, xs.length = n := ⟨_, rfl⟩
  obtain ⟨m, hm⟩ : ∃ m, ys.length = m := ⟨_, rfl⟩
  obtain ⟨s, hs⟩ : ∃ s, n + m - 1 = s := ⟨_, rfl⟩
  rw [hn] at h1 ⊢
  rw [hm] at h2 ⊢
  have HN := Lib.hid hn
  have HM := Lib.hid hm
  clear hn hm
  have ws : IntKind.i64.wrap ((n : Int) + (m : Int)) = (n : Int) + (m : Int) := IntWalk.i64_in _ (by omega)
  have wt : IntKind.i64.wrap ((n : Int) + (m : Int) - 1) = (s : Int) := by rw [IntWalk.i64_in _ (by omega)]; omega
  go_enter Tryd.func50, Tryd.ntmps50
  go_wp2_with (at_make; refine wpList_make_full _ rfl _ _ 31 rfl w.heap.size 3 i0 _ 1 Tryd.underlying31 hi0 hz0 hz1 .i64 .i64 s s s rfl rfl rfl rfl (by rw [hz2]; omega) (by simp [maxLen]; omega) (Nat.le_refl _) ?_; intro w1 hown1 hg1)
  have hst : OwnI w1 w.heap.size (.slice (some ⟨w.heap.size, 0, none⟩) s s) (rowL (bothR xs ys 0) s) := by
    have e : rowL (bothR xs ys 0) s = List.replicate s 0 := (rowL_zero s).symm
    rw [e]
    unfold OwnI; rw [List.length_replicate, ← madeCells_ints]; exact hown1
  have hb1 : Below w.heap.size w w1 := (Below.refl _ _).grown hg1 (Nat.le_refl _) (by simp)
  clear hown1 hg1 hz1 hz2 hi0 hz0
  go_wp2_with fail
  go_loopw [6, 7, 17] (fun _ _ k wr => ∃ j : Nat, j ≤ n ∧ k = .int .i64 (j : Nat) ∧ OwnI wr w.heap.size (.slice (some ⟨w.heap.size, 0, none⟩) s s) (rowL (bothR xs ys j) s) ∧ Below w.heap.size w wr) (fun _ _ k _ => n - (intOf k).toNat)
  case atStart => exact ⟨0, by omega, rfl, hst, hb1⟩
  case round =>
    clear hst hb1
    obtain ⟨j, hj, rfl, own, hb⟩ := hrel
    by_cases hlt : j < n
    · have j1 : j < xs.length := by have := HN.out; omega
      obtain ⟨b, off, rfl, hbb, g1⟩ := (hxs.below hb (Nat.le_refl _)) j _ (getD_some j1)
      have hys' := hys.below hb (Nat.le_refl _)
      have HR : Hid (bothR xs ys (j + 1) = addR (xs.getD j 0) ys j (bothR xs ys j) m) := by rw [Hid, ← HM.out]; rfl
      generalize xs.getD j 0 = t at *
      go_wp2_with fail
      refine (addShifted_any _ _ _ _ _ _ _ _ _ _ _ _ own hys' HM.out (by omega) (by omega)).mono ?_
      rintro e1 w2 ⟨rfl, own2, hb2⟩
      rw [← HR.out] at own2
      go_wp2_with fail
      go_roundw
      case rel => exact ⟨j + 1, by omega, by go_num, own2, hb.trans hb2⟩
      case measure => simp [intOf]; omega
    · obtain rfl : j = n := by omega
      have e : rowL (bothR xs ys j) s = togL xs ys := by unfold togL; rw [HN.out, HM.out, hs]
      have HL : Hid ((togL xs ys).length = s) := by rw [Hid, togL_length, HN.out, HM.out, hs]
      rw [e] at own
      go_wp2_with fail
      go_returns
      exact ⟨some ⟨w.heap.size, 0, none⟩, s, by rw [HL.out]; rfl, by rw [HL.out]; exact own, hb⟩

def lenOkB (n : Nat) : Bool := decide (1 ≤ n) && decide (n ≤ 30)
theorem bothOk_len (xs ys : List Int) : bothOkB xs ys = (lenOkB xs.length && lenOkB ys.length) := rfl

end Go.Proofs.YtcmomghlepmogaaDoor

/- BothOf of the reference; ChoicesOf of the program and of the reference. -/
namespace Go.Proofs.YtcmomghlepmogaaDoor
open Go.RowKit
set_option maxRecDepth 100000

theorem OwnI.empty (w : World) {base : Nat} (hb : base ≤ w.heap.size) : OwnI (w.alloc (.cells #[] 3)) base (.slice (some ⟨w.heap.size, 0, none⟩) 0 0) [] :=
  OwnI.box w [] hb (by simp)

end Go.Proofs.YtcmomghlepmogaaDoor

/- JoiningCounts, WholeCounts and ForestCounts of the reference. -/
namespace Go.Proofs.YtcmomghlepmogaaDoor
open Go.RowKit
set_option maxRecDepth 100000

theorem pow_named {l : Nat} (h : l ≤ 9) : ∃ P : Nat, 2 ^ l = P ∧ 1 ≤ P ∧ P ≤ 512 ∧ wrap64 (2 ^ l) = (P : Int) ∧ IntKind.i64.wrap (2 ^ l) = (P : Int) := by
  have h2 : 2 ^ l ≤ 2 ^ 9 := Nat.pow_le_pow_right (by omega) h
  have h1 : 1 ≤ 2 ^ l := Nat.one_le_two_pow
  have e : (2 : Int) ^ l = ((2 ^ l : Nat) : Int) := by rw [Int.natCast_pow]; rfl
  refine ⟨2 ^ l, rfl, h1, h2, ?_, ?_⟩
  · rw [e]; generalize 2 ^ l = P at *; unfold wrap64; omega
  · rw [e, IntWalk.i64_left]; generalize 2 ^ l = P at *; unfold wrap64; omega

theorem pieces_one {x : Nat} (h : decide (x = 1) = true) : (x : Int) = 1 := by simp at h; omega
theorem pieces_more1 {x : Nat} (h : decide (x = 1) = false) : ((x : Int) == 1) = false := by simp at h; simp; omega

end Go.Proofs.YtcmomghlepmogaaDoor
