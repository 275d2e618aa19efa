/- toIntS, eqIntS, sameInts, markIntS and heldIntS of the laws. -/
import Derived.Test.YtaplmlbpleilfaaRow
import Derived.Test.YtaplmlbpleilfaaState
namespace Go.Proofs.Ytaplmlbpleilfaa
open Go.RowKit
set_option maxRecDepth 100000

theorem toIntS_any (A : Option Addr) (c : Nat) (xs : List Int) (w : World) (hxs : IntsIn w w.heap.size A xs) (hl : xs.length ≤ 1048576) :
    Calls Try.prog 20 #[.slice A xs.length c] w (GotInts w xs) := by
  obtain ⟨i0, hi0, hz0, hz1, hz2⟩ := info_parts int_info
  generalize hn : xs.length = n at *
  have H := Lib.hid hn
  clear hn
  go_enter Try.func20, Try.ntmps20
  go_wp2_with (at_make; refine wpList_make_full _ rfl _ _ 28 rfl w.heap.size 3 i0 _ 1 Try.underlying28 hi0 hz0 hz1 .i64 .i64 n n n rfl rfl rfl rfl (by rw [hz2]; omega) (by simp [maxLen]; omega) (Nat.le_refl _) ?_; intro w1 hown1 hg1)
  have hst : OwnI w1 w.heap.size (.slice (some ⟨w.heap.size, 0, none⟩) n n) (List.replicate n 0) := by
    unfold OwnI; rw [List.length_replicate, ← madeCells_ints]; exact hown1
  have hb1 : Below w.heap.size w w1 := (Below.refl _ _).grown hg1 (Nat.le_refl _) (by simp)
  clear hown1 hg1 hz1 hz2 hi0 hz0
  go_loopw [4] (fun i wr => ∃ (k : Nat) (cur : List Int), k ≤ n ∧ i = .int .i64 k ∧ Hid (cur.take k = xs.take k) ∧ OwnI wr w.heap.size (.slice (some ⟨w.heap.size, 0, none⟩) n n) cur ∧ Below w.heap.size w wr) (fun i _ => n - (intOf i).toNat)
  case atStart => exact ⟨0, _, by omega, rfl, by simp [Hid], hst, hb1⟩
  case round =>
    obtain ⟨k, cur, hk, rfl, hall, hown, hb⟩ := hrel
    by_cases hlt : k < n
    · have k1 : k < xs.length := by have := H.out; omega
      have k2 : k < cur.length := by have := hown.len; omega
      obtain ⟨b, off, rfl, hbb, g1⟩ := (hxs.below hb (by omega)) k _ (List.getElem?_eq_getElem k1)
      have hset := Lib.hid (take_set_succ k2 k1 hall.out)
      clear hxs
      generalize xs[k] = x at *
      have hgl := hown.lt w.heap.size rfl
      obtain ⟨c1, f1⟩ := hown.slot hlt
      go_wp2_with fail
      go_roundw
      case rel => exact ⟨k + 1, cur.set k x, by omega, by go_num, hset.out, hown.store k x, hb.setCell (by simp) _⟩
      case measure => simp [intOf]; omega
    · obtain rfl : k = n := by omega
      have hce : cur = xs := by
        have := hall.out
        rw [List.take_of_length_le (by have := hown.len; omega), List.take_of_length_le (by rw [H.out]; omega)] at this
        exact this
      subst hce
      go_wp2
      go_returns
      exact ⟨some ⟨w.heap.size, 0, none⟩, k, by rw [H.out]; rfl, by rw [H.out]; exact hown, hb⟩

theorem eqIntS_self (A B : Option Addr) (c d m : Nat) (xs : List Int) (w : World) (hxs : IntsIn w w.heap.size A xs) (hys : IntsIn w w.heap.size B xs) (hm : xs.length = m) (hl : m ≤ 1048576) :
    Calls Try.prog 21 #[.slice A m c, .slice B m d] w fun e w' => e = .returned (.bool true) ∧ Below w.heap.size w w' := by
  have HM := Lib.hid hm
  clear hm
  go_enter Try.func21, Try.ntmps21
  go_wp2_with fail
  go_loopw [5] (fun i wr => ∃ k : Nat, k ≤ m ∧ i = .int .i64 k ∧ Below w.heap.size w wr) (fun i _ => m - (intOf i).toNat)
  case atStart => exact ⟨0, by omega, rfl, Below.refl _ _⟩
  case round =>
    obtain ⟨k, hk, rfl, hb⟩ := hrel
    by_cases hlt : k < m
    · have k1 : k < xs.length := by have := HM.out; omega
      obtain ⟨b, off, rfl, hbb, g1⟩ := (hxs.below hb (by omega)) k _ (List.getElem?_eq_getElem k1)
      obtain ⟨b', off', rfl, hbb', g1'⟩ := (hys.below hb (by omega)) k _ (List.getElem?_eq_getElem k1)
      clear hxs hys
      generalize xs[k] = x at *
      go_wp2_with fail
      go_quiet (fail)
      go_wp2_with fail
      go_roundw
      case rel => exact ⟨k + 1, by omega, by go_num, belowN hb _⟩
      case measure => simp [intOf]; omega
    · obtain rfl : k = m := by omega
      go_wp2_with fail
      go_returns
      exact ⟨rfl, hb⟩

def marksI (k : Int) (m : Nat) : List Int := rowL (fun i => k + (i : Int)) m
theorem marksI_length (k : Int) (m : Nat) : (marksI k m).length = m := rowL_length _ _
theorem marksI_get (k : Int) (m i : Nat) (h : i < m) : (marksI k m)[i]? = some (k + (i : Int)) := rowL_get _ h
def MarkedI (w : World) (base : Nat) (v : Value) (k : Int) (m : Nat) (e : Ending) (w' : World) : Prop :=
  e = .returned (.int .i64 (k + (m : Int))) ∧ OwnI w' base v (marksI k m) ∧ w.grownBy w' v.ownBlock

end Go.Proofs.Ytaplmlbpleilfaa
