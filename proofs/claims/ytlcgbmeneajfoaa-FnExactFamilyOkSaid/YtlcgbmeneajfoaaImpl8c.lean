/- Numbers of things and lists of states: the program's tests. -/
import Derived.Test.YtlcgbmeneajfoaaImpl8b
namespace Go.Proofs.Ytlcgbmeneajfoaa
open Go.RowKit
set_option maxRecDepth 100000

def sixB (t : Int) : Bool := decide (0 ≤ t) && decide (t ≤ 6)
theorem thingsOk_any (t : Int) (w : World) :
    Calls Try.prog 71 #[.int .i64 t] w fun e w' => e = .returned (.bool (sixB t)) ∧ w = w' := by
  unfold sixB
  by_cases h0 : 0 ≤ t
  · have e0 : (0 ≤ t) = True := eq_true h0
    by_cases h1 : t ≤ 6
    · have e1 : (t ≤ 6) = True := eq_true h1
      rw [decide_eq_true h0, decide_eq_true h1]
      go_enter Try.func71, Try.ntmps71
      go_wp2_with fail
      go_returns
      exact ⟨rfl, rfl⟩
    · have e1 : (t ≤ 6) = False := eq_false h1
      rw [decide_eq_true h0, decide_eq_false h1]
      go_enter Try.func71, Try.ntmps71
      go_wp2_with fail
      go_returns
      exact ⟨rfl, rfl⟩
  · have e0 : (0 ≤ t) = False := eq_false h0
    rw [decide_eq_false h0]
    go_enter Try.func71, Try.ntmps71
    go_wp2_with fail
    go_returns
    exact ⟨rfl, rfl⟩

def stateB (t s : Int) : Bool := sixB t && (decide (0 ≤ s) && decide (s < (2 ^ t.toNat : Nat)))
theorem stateThings_any (t s : Int) (w : World) :
    Calls Try.prog 50 #[.int .i64 t, .int .i64 s] w fun e w' => e = .returned (.bool (stateB t s)) ∧ w = w' := by
  have HT := Lib.hid (thingsOk_any t)
  unfold stateB
  cases h : sixB t with
  | false =>
    rw [h] at HT
    go_enter Try.func50, Try.ntmps50
    go_wp2_with fail
    refine (HT.out _).mono ?_
    rintro e1 w1 ⟨rfl, rfl⟩
    go_wp2_with fail
    go_returns
    exact ⟨rfl, rfl⟩
  | true =>
    rw [h] at HT
    unfold sixB at h
    rw [Bool.and_eq_true, decide_eq_true_eq, decide_eq_true_eq] at h
    obtain ⟨T, rfl⟩ : ∃ T : Nat, t = T := ⟨t.toNat, by omega⟩
    obtain ⟨P, hP, p1, p2, p3, p4⟩ := pow_named12 (l := T) (by omega)
    rw [Int.toNat_natCast, hP]
    have hmin : min T 64 = T := by omega
    by_cases h0 : 0 ≤ s
    · have e0 : (0 ≤ s) = True := eq_true h0
      rw [decide_eq_true h0]
      by_cases h1 : s < (P : Int)
      · have e1 : (s < (P : Int)) = True := eq_true h1
        rw [decide_eq_true h1]
        clear hP h h1
        go_enter Try.func50, Try.ntmps50
        go_wp2_with fail
        refine (HT.out _).mono ?_
        rintro e1 w1 ⟨rfl, rfl⟩
        go_wp2_with fail
        go_returns
        exact ⟨rfl, rfl⟩
      · have e1 : (s < (P : Int)) = False := eq_false h1
        rw [decide_eq_false h1]
        clear hP h h1
        go_enter Try.func50, Try.ntmps50
        go_wp2_with fail
        refine (HT.out _).mono ?_
        rintro e1 w1 ⟨rfl, rfl⟩
        go_wp2_with fail
        go_returns
        exact ⟨rfl, rfl⟩
    · have e0 : (0 ≤ s) = False := eq_false h0
      rw [decide_eq_false h0]
      clear hP h
      go_enter Try.func50, Try.ntmps50
      go_wp2_with fail
      refine (HT.out _).mono ?_
      rintro e1 w1 ⟨rfl, rfl⟩
      go_wp2_with fail
      go_returns
      exact ⟨rfl, rfl⟩

theorem listOne_any (t x : Int) (g : Nat) (u : World) (hc : u.cell? ⟨g, 0, none⟩ = some (.int .i64 t)) :
    Calls Try.prog 73 #[.int .i64 x, .pointer (some ⟨g, 0, none⟩)] u fun e w' => e = .returned (.bool (!stateB t x)) ∧ Below u.heap.size u w' := by
  have H := Lib.hid (stateThings_any t x u)
  generalize stateB t x = v at *
  go_enter Try.func73, Try.ntmps73
  go_wp2_with fail
  refine H.out.mono ?_
  rintro e1 w1 ⟨rfl, rfl⟩
  go_wp2_with fail
  go_returns
  exact ⟨rfl, Below.refl _ _⟩

theorem list_state (t : Int) (xs : List Int) (h : sixB t = true) : listOkB t xs = !xs.any fun x => !stateB t x := by
  unfold listOkB
  rw [show (decide (0 ≤ t) && decide (t ≤ 6)) = true from h, Bool.true_and, List.not_any_eq_all_not]
  congr 1
  funext x
  unfold stateB
  rw [h, Bool.true_and, Bool.not_not]
theorem list_state_no (t : Int) (xs : List Int) (h : sixB t = false) : listOkB t xs = false := by
  unfold listOkB
  rw [show (decide (0 ≤ t) && decide (t ≤ 6)) = false from h, Bool.false_and]

set_option maxHeartbeats 1000000 in
theorem listThings_any (t : Int) (A : Option Addr) (c : Nat) (xs : List Int) (w : World) (hin : IntsIn w w.heap.size A xs) (hl : xs.length ≤ maxLen) :
    Calls Try.prog 46 #[.int .i64 t, .slice A xs.length c] w fun e w' => e = .returned (.bool (listOkB t xs)) ∧ Below w.heap.size w w' := by
  have hmf : ∀ (fn : Fn) (first cap : Array Value) (w : World), (Instr.makeFunc fn first cap).run Try.prog w = .ok (.func fn first cap) w := fun _ _ _ _ => rfl
  have hb := (Below.refl w.heap.size w).alloc (Nat.le_refl _) (.cells #[.int .i64 t] 3)
  have HT := Lib.hid (thingsOk_any t)
  cases h : sixB t with
  | false =>
    rw [h] at HT
    have HV := Lib.hid (list_state_no t xs h)
    generalize listOkB t xs = v at *
    clear hin hl h
    go_enter Try.func46, Try.ntmps46
    go_wp2_with fail
    refine (HT.out _).mono ?_
    rintro e1 w1 ⟨rfl, rfl⟩
    go_wp2_with fail
    go_returns
    exact ⟨retB HV.out.symm, hb⟩
  | true =>
    rw [h] at HT
    have HV := Lib.hid (list_state t xs h)
    have HC := containsFunc_any 73 #[.pointer (some ⟨w.heap.size, 0, none⟩)] (fun x => !stateB t x) A c xs (w.alloc (.cells #[.int .i64 t] 3)) ((hin.alloc (Nat.le_refl _) _).more (by simp)) hl
      (fun _ _ => rfl) (fun u hu x _ => listOne_any t x w.heap.size u ((hu.cell (p := ⟨w.heap.size, 0, none⟩) (by simp)).trans (by rw [World.cell?_alloc_at _ _ _ _ rfl]; rfl)))
    have HC := Lib.hid HC
    generalize (xs.any fun x => !stateB t x) = b at *
    generalize listOkB t xs = v at *
    generalize xs.length = m at *
    clear hin h hl
    go_enter Try.func46, Try.ntmps46
    go_wp2_with fail
    refine (HT.out _).mono ?_
    rintro e1 w1 ⟨rfl, rfl⟩
    go_wp2_with fail
    refine HC.out.mono ?_
    rintro e2 w2 ⟨rfl, hb2⟩
    go_wp2_with fail
    go_returns
    exact ⟨retB HV.out.symm, hb.trans (hb2.mono (by simp))⟩

/-- How far two lists are alike. -/
theorem equal_any (A B : Option Addr) (c d : Nat) (xs ys : List Int) (w : World) (hx : IntsIn w w.heap.size A xs) (hy : IntsIn w w.heap.size B ys) (hl : xs.length ≤ maxLen) :
    Calls Try.prog 47 #[.slice A xs.length c, .slice B ys.length d] w fun e w' => e = .returned (.bool (decide (xs = ys))) ∧ Below w.heap.size w w' := by
  have hl2 : xs.length ≤ 9223372036854775807 := by simp [maxLen] at hl; omega
  by_cases hn : xs.length = ys.length
  · obtain ⟨m, hm⟩ : ∃ m, xs.length = m := ⟨_, rfl⟩
    rw [← hn, hm]
    rw [hm] at hl2
    have HX := Lib.hid hm
    have HY : Hid (ys.length = m) := hn.symm.trans hm
    clear hl hm hn
    go_enter Try.func47, Try.ntmps47
    go_wp2_with fail
    go_loopw [13] (fun i wr => ∃ k : Nat, k ≤ m ∧ i = .int .i64 (k : Nat) ∧ xs.take k = ys.take k ∧ Below w.heap.size w wr) (fun i _ => m - (intOf i).toNat)
    case atStart => exact ⟨0, by omega, rfl, rfl, Below.refl _ _⟩
    case round =>
      obtain ⟨k, hk, rfl, hsame, hb⟩ := hrel
      by_cases hlt : k < m
      · have k1 : k < xs.length := by have := HX.out; omega
        have k2 : k < ys.length := by have := HY.out; omega
        obtain ⟨x, hx1⟩ : ∃ x, xs[k]? = some x := ⟨_, List.getElem?_eq_getElem k1⟩
        obtain ⟨y, hy1⟩ : ∃ y, ys[k]? = some y := ⟨_, List.getElem?_eq_getElem k2⟩
        obtain ⟨b, off, rfl, hbb, g1⟩ := (hx.below hb (Nat.le_refl _)) k _ hx1
        obtain ⟨b2, off2, rfl, hbb2, g2⟩ := (hy.below hb (Nat.le_refl _)) k _ hy1
        have hik : (k : Int) < (m : Int) := by omega
        by_cases he : x = y
        · subst he
          have HN : Hid (xs.take (k + 1) = ys.take (k + 1)) := by rw [Hid, take_more hx1, take_more hy1, hsame]
          clear hx hy hx1 hy1 hsame k1 k2
          go_wp2_with fail
          go_quiet (fail)
          go_wp2_with fail
          go_roundw
          case rel => exact ⟨k + 1, by omega, by go_num, HN.out, belowN hb _⟩
          case measure => simp [intOf]; omega
        · have HN : Hid (decide (xs = ys) = false) := decide_eq_false fun e => by rw [e] at hx1; rw [hx1] at hy1; exact he (by injection hy1)
          have e1 : (x = y) = False := eq_false he
          have e2 : (x == y) = false := by simp [he]
          clear hx hy hx1 hy1 hsame k1 k2
          go_wp2_with fail
          go_quiet (fail)
          go_wp2_with fail
          go_returns
          exact ⟨retB HN.out.symm, belowN hb _⟩
      · obtain rfl : k = m := by omega
        have HN : Hid (decide (xs = ys) = true) := by
          rw [List.take_of_length_le (by rw [HX.out]; exact Nat.le_refl _), List.take_of_length_le (by rw [HY.out]; exact Nat.le_refl _)] at hsame
          exact decide_eq_true hsame
        clear hsame
        go_wp2_with fail
        go_returns
        exact ⟨retB HN.out.symm, hb⟩
  · have hne : ((xs.length : Int) = (ys.length : Int)) = False := eq_false (by omega)
    have hne2 : ((xs.length : Int) == (ys.length : Int)) = false := by simp; omega
    have HN : Hid (decide (xs = ys) = false) := decide_eq_false fun e => hn (by rw [e])
    clear hx hy hn
    generalize xs.length = m at *
    generalize ys.length = m2 at *
    go_enter Try.func47, Try.ntmps47
    go_wp2_with fail
    go_returns
    exact ⟨retB HN.out.symm, Below.refl _ _⟩
end Go.Proofs.Ytlcgbmeneajfoaa
