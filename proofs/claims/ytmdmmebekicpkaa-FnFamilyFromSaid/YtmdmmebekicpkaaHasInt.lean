/- hasInt of the laws, of a number that the row has. -/
import Derived.Test.YtmdmmebekicpkaaRow
import Derived.Test.YtmdmmebekicpkaaEdgesAt
namespace Go.Proofs.Ytmdmmebekicpkaa
open Go.RowKit
set_option maxRecDepth 100000

theorem hasInt_in (A : Option Addr) (c m : Nat) (xs : List Int) (n : Int) (w : World) (hxs : IntsIn w w.heap.size A xs) (hm : xs.length = m) (hl : m ≤ 1048576) (hn : n ∈ xs) :
    Calls Try.prog 21 #[.slice A m c, .int .i64 n] w fun e w' => e = .returned (.bool true) ∧ Below w.heap.size w w' := by
  have HM := Lib.hid hm
  have HN := Lib.hid hn
  clear hm hn
  go_enter Try.func21, Try.ntmps21
  go_wp2_with fail
  go_loopw [5] (fun i wr => ∃ k : Nat, k ≤ m ∧ i = .int .i64 k ∧ Hid (n ∈ xs.drop k) ∧ Below w.heap.size w wr) (fun i _ => m - (intOf i).toNat)
  case atStart => exact ⟨0, by omega, rfl, HN, Below.refl _ _⟩
  case round =>
    clear HN
    obtain ⟨k, hk, rfl, hin, hb⟩ := hrel
    by_cases hlt : k < m
    · have k1 : k < xs.length := by have := HM.out; omega
      obtain ⟨b, off, rfl, hbb, g1⟩ := (hxs.below hb (by omega)) k _ (List.getElem?_eq_getElem k1)
      have hd : n = xs[k] ∨ n ∈ xs.drop (k + 1) := by
        have h := hin.out
        rw [List.drop_eq_getElem_cons k1, List.mem_cons] at h
        exact h
      have HD := Lib.hid hd
      clear hxs hin hd
      generalize xs[k] = x at *
      by_cases he : x = n
      · subst he
        go_wp2_with fail
        go_returns
        exact ⟨rfl, hb⟩
      · have HX : Hid (n ∈ xs.drop (k + 1)) := by
          rcases HD.out with h | h
          · exact absurd h.symm he
          · exact h
        clear HD
        go_wp2_with fail
        go_roundw
        case rel => exact ⟨k + 1, by omega, by go_num, HX, hb⟩
        case measure => simp [intOf]; omega
    · obtain rfl : k = m := by omega
      have h := hin.out
      rw [List.drop_of_length_le (by have := HM.out; omega)] at h
      cases h
end Go.Proofs.Ytmdmmebekicpkaa
