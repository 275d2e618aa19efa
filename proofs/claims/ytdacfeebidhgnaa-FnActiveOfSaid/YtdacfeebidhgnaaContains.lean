/- slices.ContainsFunc of integers. -/
import Derived.Test.YtdacfeebidhgnaaRow
namespace Go.Proofs.Ytdacfeebidhgnaa
open Go.RowKit
set_option maxRecDepth 100000

theorem any_take_moreW {q : Int → Bool} {xs : List Int} {k : Nat} {x : Int} (h : xs[k]? = some x) : (xs.take (k + 1)).any q = ((xs.take k).any q || q x) := by
  obtain ⟨hk, rfl⟩ := List.getElem?_eq_some_iff.1 h
  rw [List.take_succ_eq_append_getElem hk, List.any_append]; simp
theorem any_oneW {q : Int → Bool} {xs : List Int} {k : Nat} {x : Int} (h : xs[k]? = some x) (hq : q x = true) : xs.any q = true :=
  List.any_eq_true.2 ⟨x, List.mem_of_getElem? h, hq⟩

/-- A place just if one works; -1 if none does. -/
def FoundIW (b : Bool) (w : World) (e : Ending) (w' : World) : Prop := ∃ i : Int, e = .returned (.int .i64 i) ∧ ((b = true ∧ 0 ≤ i) ∨ (b = false ∧ i = -1)) ∧ Below w.heap.size w w'

set_option maxHeartbeats 1000000 in
/-- The library's search by a function's value: from 0 on just if one works. -/
theorem indexFunc_anyW (F : FuncId) (caps : Array Value) (q : Int → Bool) (A : Option Addr) (cap : Nat) (xs : List Int) (w : World) (hxs : IntsIn w w.heap.size A xs) (hl : xs.length ≤ maxLen)
    (hF : ∀ (args : Array Value) (u : World), (callFunc F args).run Try.prog u = .ok (.enter F args) u)
    (hq : ∀ u, Below w.heap.size w u → ∀ x ∈ xs, Calls Try.prog F (#[.int .i64 x] ++ caps) u fun e w' => e = .returned (.bool (q x)) ∧ Below u.heap.size u w') :
    Calls Try.prog 163 #[.slice A xs.length cap, .func (.func F) #[] caps] w (FoundIW (xs.any q) w) := by
  have hl2 : xs.length ≤ 9223372036854775807 := by simp [maxLen] at hl; omega
  have HQ := Lib.hid hq
  obtain ⟨m, hm⟩ : ∃ m, xs.length = m := ⟨_, rfl⟩
  rw [hm] at hl2 ⊢
  have HM := Lib.hid hm
  clear hq hm hl
  go_enter Try.func163, Try.ntmps163
  go_wp2_with fail
  go_loopw [8] (fun i wr => ∃ k : Nat, k ≤ m ∧ i = .int .i64 (k : Nat) ∧ (xs.take k).any q = false ∧ Below w.heap.size w wr) (fun i _ => m - (intOf i).toNat)
  case atStart => exact ⟨0, by omega, rfl, rfl, Below.refl _ _⟩
  case round =>
    obtain ⟨k, hk, rfl, hno, hb⟩ := hrel
    by_cases hlt : k < m
    · have k1 : k < xs.length := by have := HM.out; omega
      obtain ⟨x, hx⟩ : ∃ x, xs[k]? = some x := ⟨_, List.getElem?_eq_getElem k1⟩
      obtain ⟨b, off, rfl, hbb, g1⟩ := (hxs.below hb (Nat.le_refl _)) k _ hx
      have hcall := HQ.out wr hb x (List.mem_of_getElem? hx)
      have hnext := any_take_moreW (q := q) hx
      rw [hno, Bool.false_or] at hnext
      have HX := Lib.hid hx
      clear hno hx
      cases hv : q x with
      | true =>
        have HA := Lib.hid (any_oneW HX.out hv)
        rw [hv] at hcall
        clear hnext
        go_wp2_with fail
        refine hcall.mono ?_
        clear hcall
        rintro e1 w1 ⟨rfl, hb1⟩
        have hb2 := hb.trans (hb1.mono hb.size)
        clear hb hb1 HQ g1 hxs
        go_wp2_with fail
        go_returns
        exact ⟨_, rfl, .inl ⟨HA.out, by omega⟩, hb2⟩
      | false =>
        rw [hv] at hcall hnext
        have HN := Lib.hid hnext
        clear hnext
        go_wp2_with fail
        refine hcall.mono ?_
        clear hcall
        rintro e1 w1 ⟨rfl, hb1⟩
        have hb2 := hb.trans (hb1.mono hb.size)
        clear hb hb1 HQ g1 hxs
        go_wp2_with fail
        go_roundw
        case rel => exact ⟨k + 1, by omega, by go_num, HN.out, hb2⟩
        case measure => simp [intOf]; omega
    · obtain rfl : k = m := by omega
      have HN : Hid (xs.any q = false) := by
        rw [Hid, ← hno, ← HM.out, List.take_length]
      clear hno
      go_wp2_with fail
      go_returns
      exact ⟨_, rfl, .inr ⟨HN.out, rfl⟩, hb⟩

theorem containsFunc_anyW (F : FuncId) (caps : Array Value) (q : Int → Bool) (A : Option Addr) (cap : Nat) (xs : List Int) (w : World) (hxs : IntsIn w w.heap.size A xs) (hl : xs.length ≤ maxLen)
    (hF : ∀ (args : Array Value) (u : World), (callFunc F args).run Try.prog u = .ok (.enter F args) u)
    (hq : ∀ u, Below w.heap.size w u → ∀ x ∈ xs, Calls Try.prog F (#[.int .i64 x] ++ caps) u fun e w' => e = .returned (.bool (q x)) ∧ Below u.heap.size u w') :
    Calls Try.prog 146 #[.slice A xs.length cap, .func (.func F) #[] caps] w fun e w' => e = .returned (.bool (xs.any q)) ∧ Below w.heap.size w w' := by
  have HC := Lib.hid (indexFunc_anyW F caps q A cap xs w hxs hl hF hq)
  clear hq hF
  generalize xs.length = m at *
  go_enter Try.func146, Try.ntmps146
  go_wp2_with fail
  refine HC.out.mono ?_
  rintro e1 w1 ⟨i, rfl, hi, hb⟩
  rcases hi with ⟨hv, hi⟩ | ⟨hv, rfl⟩
  · have HV := Lib.hid hv
    have hi2 : (0 ≤ i) = True := eq_true hi
    clear hv HC
    go_wp2_with fail
    go_returns
    exact ⟨retB HV.out.symm, hb⟩
  · have HV := Lib.hid hv
    clear hv HC
    go_wp2_with fail
    go_returns
    exact ⟨retB HV.out.symm, hb⟩
end Go.Proofs.Ytdacfeebidhgnaa
