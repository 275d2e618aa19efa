/- toIntS, eqIntS, sameInts, markIntS and heldIntS of the laws. -/
import Derived.Test.YtdacfeebidhgnaaRow
import Derived.Test.YtdacfeebidhgnaaEdgesAt
namespace Go.Proofs.Ytdacfeebidhgnaa
open Go.RowKit
set_option maxRecDepth 100000

theorem eqIntS_self (A B : Option Addr) (c d m : Nat) (xs : List Int) (w : World) (hxs : IntsIn w w.heap.size A xs) (hys : IntsIn w w.heap.size B xs) (hm : xs.length = m) (hl : m ≤ 1048576) :
    Calls Try.prog 22 #[.slice A m c, .slice B m d] w fun e w' => e = .returned (.bool true) ∧ Below w.heap.size w w' := by
  have HM := Lib.hid hm
  clear hm
  go_enter Try.func22, Try.ntmps22
  go_wp2_with fail
  go_loopw [5] (fun i wr => ∃ k : Nat, k ≤ m ∧ i = .int .i64 k ∧ Below w.heap.size w wr) (fun i _ => m - (intOf i).toNat)
  case atStart => exact ⟨0, by omega, rfl, Below.refl _ _⟩
  case round =>
    obtain ⟨k, hk, rfl, hb⟩ := hrel
    by_cases hlt : k < m
    · have k1 : k < xs.length := by have := HM.out; omega
      obtain ⟨b, off, rfl, hbb, g1⟩ := (hxs.below hb (by omega)) k _ (List.getElem?_eq_getElem k1)
      obtain ⟨b', off', rfl, hbb', g1'⟩ := (hys.below hb (by omega)) k _ (List.getElem?_eq_getElem k1)
      clear hxs hys
      generalize xs[k] = x at *
      go_wp2_with fail
      go_quiet (fail)
      go_wp2_with fail
      go_roundw
      case rel => exact ⟨k + 1, by omega, by go_num, belowN hb _⟩
      case measure => simp [intOf]; omega
    · obtain rfl : k = m := by omega
      go_wp2_with fail
      go_returns
      exact ⟨rfl, hb⟩

theorem sameInts_self (A B : Option Addr) (c d m : Nat) (xs : List Int) (w : World) (hxs : IntsIn w w.heap.size A xs) (hys : IntsIn w w.heap.size B xs) (hm : xs.length = m) (hl : m ≤ 1048576) :
    Calls Try.prog 51 #[.slice A m c, .slice B m d] w fun e w' => e = .returned (.bool true) ∧ Below w.heap.size w w' := by
  have HM := Lib.hid hm
  clear hm
  go_enter Try.func51, Try.ntmps51
  go_wp2_with fail
  go_loopw [5] (fun i wr => ∃ k : Nat, k ≤ m ∧ i = .int .i64 k ∧ Below w.heap.size w wr) (fun i _ => m - (intOf i).toNat)
  case atStart => exact ⟨0, by omega, rfl, Below.refl _ _⟩
  case round =>
    obtain ⟨k, hk, rfl, hb⟩ := hrel
    by_cases hlt : k < m
    · have k1 : k < xs.length := by have := HM.out; omega
      obtain ⟨b, off, rfl, hbb, g1⟩ := (hxs.below hb (by omega)) k _ (List.getElem?_eq_getElem k1)
      obtain ⟨b', off', rfl, hbb', g1'⟩ := (hys.below hb (by omega)) k _ (List.getElem?_eq_getElem k1)
      clear hxs hys
      generalize xs[k] = x at *
      go_wp2_with fail
      go_quiet (fail)
      go_wp2_with fail
      go_roundw
      case rel => exact ⟨k + 1, by omega, by go_num, belowN hb _⟩
      case measure => simp [intOf]; omega
    · obtain rfl : k = m := by omega
      go_wp2_with fail
      go_returns
      exact ⟨rfl, hb⟩

def marksI (k : Int) (m : Nat) : List Int := rowL (fun i => k + (i : Int)) m
theorem marksI_length (k : Int) (m : Nat) : (marksI k m).length = m := rowL_length _ _
theorem marksI_get (k : Int) (m i : Nat) (h : i < m) : (marksI k m)[i]? = some (k + (i : Int)) := rowL_get _ h
def MarkedI (w : World) (base : Nat) (v : Value) (k : Int) (m : Nat) (e : Ending) (w' : World) : Prop :=
  e = .returned (.int .i64 (k + (m : Int))) ∧ OwnI w' base v (marksI k m) ∧ w.grownBy w' v.ownBlock

theorem markIntS_any (A : Option Addr) (c base m : Nat) (xs : List Int) (k : Int) (w : World) (own : OwnI w base (.slice A m c) xs) (hl : m ≤ 1048576) (k0 : 0 ≤ k) (k1 : k ≤ 4194304) :
    Calls Try.prog 24 #[.slice A m c, .int .i64 k] w (MarkedI w base (.slice A m c) k m) := by
  go_enter Try.func24, Try.ntmps24
  go_wp2_with fail
  go_loopw [1, 5] (fun kk i wr => ∃ (j : Nat) (cur : List Int), j ≤ m ∧ i = .int .i64 j ∧ kk = .int .i64 (k + (j : Int)) ∧ Hid (cur.take j = (marksI k m).take j) ∧ OwnI wr base (.slice A m c) cur ∧ w.grownBy wr (Value.slice A m c).ownBlock) (fun _ i _ => m - (intOf i).toNat)
  case atStart => exact ⟨0, xs, by omega, rfl, by simp, by simp [Hid], own, World.grownBy.refl _ _⟩
  case round =>
    clear own
    obtain ⟨j, cur, hj, rfl, rfl, hall, own, hg⟩ := hrel
    by_cases hlt : j < m
    · rcases own.form with ⟨hv, _⟩ | ⟨g, cc, hv, _, _⟩
      · injection hv with _ h2 _; omega
      · injection hv with hA h2 h3
        subst hA h3
        have H2 := Lib.hid h2
        clear h2
        obtain ⟨c1, f1⟩ := own.slot hlt
        have hset : Hid ((cur.set j (k + (j : Int))).take (j + 1) = (marksI k m).take (j + 1)) := by
          have h1 : j < cur.length := by have := H2.out; omega
          have h2 : j < (marksI k m).length := by rw [marksI_length]; exact hlt
          have h3 : (marksI k m)[j] = k + (j : Int) := by
            have := marksI_get k m j hlt; rw [List.getElem?_eq_getElem h2] at this; injection this
          have := take_set_succ h1 h2 hall.out
          rw [h3] at this
          exact this
        have OW := Lib.hid (own.store j (k + (j : Int)))
        clear own
        go_wp2_with fail
        go_roundw
        case rel => exact ⟨j + 1, _, by omega, by go_num, by go_num, hset, OW.out, ⟨hg.os, hg.tape, hg.output, by simp [World.setCell]; exact hg.size, fun i hi hne => by
          have hne' : i ≠ g := fun e => hne (by simp [Value.ownBlock, e])
          exact (Below.heap_setCell _ _ _ _ (by simpa using hne')).trans (hg.block i hi hne)⟩⟩
        case measure => simp [intOf]; omega
    · obtain rfl : j = m := by omega
      have hcur : cur = marksI k j := by
        have h1 := own.len
        have := hall.out
        rw [List.take_of_length_le (by omega), List.take_of_length_le (by rw [marksI_length]; omega)] at this
        exact this
      subst hcur
      go_wp2_with fail
      go_returns
      exact ⟨rfl, own, hg⟩

theorem heldIntS_any (A : Option Addr) (c m : Nat) (k : Int) (w : World) (hes : IntsIn w w.heap.size A (marksI k m)) (hl : m ≤ 1048576) (k0 : 0 ≤ k) (k1 : k ≤ 4194304) :
    Calls Try.prog 25 #[.slice A m c, .int .i64 k] w fun e w' => e = .returned (.int .i64 (k + (m : Int))) ∧ w = w' := by
  go_enter Try.func25, Try.ntmps25
  go_wp2_with fail
  go_loop [1, 5] (fun kk i => ∃ j : Nat, j ≤ m ∧ i = .int .i64 j ∧ kk = .int .i64 (k + (j : Int))) (fun _ i => m - (intOf i).toNat)
  case atStart => exact ⟨0, by omega, rfl, by simp⟩
  case round =>
    obtain ⟨j, hj, rfl, rfl⟩ := hrel
    by_cases hlt : j < m
    · obtain ⟨b, off, rfl, hbb, g1⟩ := hes j _ (marksI_get k m j hlt)
      go_wp2_with fail
      go_round
      case rel => exact ⟨j + 1, by omega, by go_num, by go_num⟩
      case measure => simp [intOf]; omega
    · obtain rfl : j = m := by omega
      go_wp2_with fail
      go_returns
      exact ⟨rfl, rfl⟩
end Go.Proofs.Ytdacfeebidhgnaa
