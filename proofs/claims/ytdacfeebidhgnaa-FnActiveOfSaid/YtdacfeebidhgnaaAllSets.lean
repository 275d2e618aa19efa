/- All sets of so many things: the program's. -/
import Derived.Test.YtdacfeebidhgnaaSieve
import Derived.Test.YtdacfeebidhgnaaList4
import Derived.Test.YtdacfeebidhgnaaBits7
namespace Go.Proofs.Ytdacfeebidhgnaa
open Go.RowKit
set_option maxRecDepth 100000

def upTo (k j : Nat) : Int := if j < k then (j : Int) else 0
theorem upTo_zero (P : Nat) : rowL (upTo 0) P = List.replicate P 0 := by
  rw [rowL_zero]; exact rowL_congr fun x _ => by simp [upTo]
theorem upTo_set (P k : Nat) : (rowL (upTo k) P).set k (k : Int) = rowL (upTo (k + 1)) P := by
  rw [rowL_set]
  refine rowL_congr fun x _ => ?_
  unfold updI upTo
  by_cases h : x = k
  · subst h; simp
  · rw [if_neg h]
    by_cases h2 : x < k
    · rw [if_pos h2, if_pos (by omega)]
    · rw [if_neg h2, if_neg (by omega)]
theorem upTo_all (P : Nat) : rowL (upTo P) P = natI (List.range P) := by
  apply List.ext_getElem?
  intro j
  by_cases hj : j < P
  · rw [rowL_get _ hj]; simp [natI, hj, upTo]
  · rw [List.getElem?_eq_none (by simp [rowL]; omega), List.getElem?_eq_none (by simp [natI]; omega)]

set_option maxHeartbeats 1000000 in
theorem allSets_any (l : Nat) (w : World) (hl : l ≤ 9) :
    Calls Try.prog 69 #[.int .i64 (l : Nat)] w (GotInts w (natI (List.range (2 ^ l)))) := by
  obtain ⟨P, hP, p1, p2, hp3, hp4⟩ := pow_named12 (l := l) (by omega)
  have hP5 : P ≤ 512 := by rw [← hP]; exact Nat.pow_le_pow_right (n := 2) (by omega) hl
  have hmin : min l 64 = l := by omega
  rw [hP]
  clear hP
  obtain ⟨i0, hi0, hz0, hz1, hz2⟩ := info_parts int_info
  go_enter Try.func69, Try.ntmps69
  go_wp2_with (at_make; refine wpList_make_full _ rfl _ _ 33 rfl w.heap.size 3 i0 _ 1 Try.underlying33 hi0 hz0 hz1 .i64 .i64 P P P rfl rfl rfl rfl (by rw [hz2]; omega) (by simp [maxLen]; omega) (Nat.le_refl _) ?_; intro w2 hown2 hg2)
  have hst : OwnI w2 w.heap.size (.slice (some ⟨w.heap.size, 0, none⟩) P P) (rowL (upTo 0) P) := by
    rw [upTo_zero]
    unfold OwnI; rw [List.length_replicate, ← madeCells_ints]; exact hown2
  have B2 : Below w.heap.size w w2 := (Below.refl _ _).grown hg2 (Nat.le_refl _) (by simp)
  clear hown2 hg2 hz1 hz2 hi0 hz0
  go_wp2_with fail
  go_loopw [4, 10] (fun _ i wr => ∃ k : Nat, k ≤ P ∧ i = .int .i64 (k : Nat) ∧ OwnI wr w.heap.size (.slice (some ⟨w.heap.size, 0, none⟩) P P) (rowL (upTo k) P) ∧ Below w.heap.size w wr) (fun _ i _ => P - (intOf i).toNat)
  case atStart => exact ⟨0, by omega, rfl, hst, B2⟩
  case round =>
    clear hst B2
    obtain ⟨k, hk, rfl, own, hb⟩ := hrel
    by_cases hlt : k < P
    · obtain ⟨c1, f1⟩ := own.slot (k := k) hlt
      have hst := own.store k (k : Int)
      rw [upTo_set] at hst
      have HS := Lib.hid hst
      clear own hst
      go_wp2_with fail
      go_roundw
      case rel => exact ⟨k + 1, by omega, by go_num, HS.out, hb.setCell (by simp) _⟩
      case measure => simp [intOf]; omega
    · obtain rfl : k = P := by omega
      rw [upTo_all] at own
      have HL : Hid ((natI (List.range k)).length = k) := by simp [Hid, natI]
      go_wp2_with fail
      go_returns
      exact ⟨some ⟨w.heap.size, 0, none⟩, k, by rw [HL.out]; rfl, by rw [HL.out]; exact own, hb⟩
end Go.Proofs.Ytdacfeebidhgnaa
