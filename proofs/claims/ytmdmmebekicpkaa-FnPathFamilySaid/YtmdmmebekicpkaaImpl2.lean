/- PiecesIn, JoinedOk, WholeOk, RankOf, RingFreeOk of the program. -/
import Derived.Test.YtmdmmebekicpkaaPiecesOf
import Derived.Test.YtmdmmebekicpkaaClass
namespace Go.Proofs.Ytmdmmebekicpkaa
open Go.RowKit
set_option maxRecDepth 100000

def piecesI (n : Int) (es : List (Int × Int)) (s : Int) : Int := if stateOkB n es s = true then (piecesB n es s : Nat) else -1
def joinedB (n : Int) (es : List (Int × Int)) (s a b : Int) : Bool := stateOkB n es s && ((decide (1 ≤ a) && decide (a ≤ n)) && ((decide (1 ≤ b) && decide (b ≤ n)) && decide (rep (endsOf es) (bits s) es.length a.toNat = rep (endsOf es) (bits s) es.length b.toNat)))
def wholeB (n : Int) (es : List (Int × Int)) (s : Int) : Bool := decide (piecesI n es s = 1)
def rankI (n : Int) (es : List (Int × Int)) (s : Int) : Int := if stateOkB n es s = true then n - (piecesB n es s : Nat) else -1
def freeB (n : Int) (es : List (Int × Int)) (s : Int) : Bool := stateOkB n es s && decide (rankI n es s = thereI n es s)
theorem stateOkB_net {n s : Int} {es : List (Int × Int)} (h : stateOkB n es s = true) : netOkB n es = true := by
  simp [stateOkB] at h; exact h.1

theorem not_state {n s : Int} {es : List (Int × Int)} (h : ¬ stateOkB n es s = true) : stateOkB n es s = false := by simpa using h

set_option maxRecDepth 100000 in
theorem joinedOk_any (n s a b : Int) (A : Option Addr) (cap : Nat) (es : List (Int × Int)) (w : World) (hes : EdgesIn w w.heap.size A es) (hl : es.length ≤ 1048576) :
    Calls Try.prog 94 #[.agg #[.int .i64 n, .slice A es.length cap], .int .i64 s, .int .i64 a, .int .i64 b] w fun e w' => e = .returned (.bool (joinedB n es s a b)) ∧ Below w.heap.size w w' := by
  have hes' := boxE hes #[.int .i64 n, .slice A es.length cap] 53
  by_cases hn : stateOkB n es s = true
  · have h9 := stateOkB_lt hn
    have hnet := stateOkB_net hn
    have hn6 := (netOkB_iff.1 hnet).1
    have HN := Lib.hid hn
    by_cases ha : 1 ≤ a ∧ a ≤ n
    · have HA : Hid (nodeOkB n es a = true) := by simp [Hid, nodeOkB, hnet, ha]
      by_cases hb : 1 ≤ b ∧ b ≤ n
      · have HB : Hid (nodeOkB n es b = true) := by simp [Hid, nodeOkB, hnet, hb]
        obtain ⟨x, rfl⟩ : ∃ x : Nat, a = x := ⟨a.toNat, by omega⟩
        obtain ⟨y, rfl⟩ : ∃ y : Nat, b = y := ⟨b.toNat, by omega⟩
        have HP : Hid (joinedB n es s x y = decide (rep (endsOf es) (bits s) es.length x = rep (endsOf es) (bits s) es.length y)) := by simp [Hid, joinedB, hn, ha.1, ha.2, hb.1, hb.2]
        have hx : x < 7 := by omega
        have hy : y < 7 := by omega
        clear hn ha hb
        go_enter Try.func94, Try.ntmps94
        go_wp2_with fail
        refine (stateOk_any _ _ _ _ _ _ hes' hl).mono ?_
        rintro e1 w1 ⟨rfl, hb1⟩
        rw [HN.out]
        have L1 := (ArgNet.start (cap := cap) (n := n) 53 hes).step hb1 (by simp)
        clear hb1
        obtain ⟨_, _, c0, c1, s1⟩ := id L1
        go_wp2_with fail
        refine (nodeOk_any _ _ _ _ _ _ L1.edges hl).mono ?_
        rintro e2 w2 ⟨rfl, hb2⟩
        rw [HA.out]
        have L2 := L1.step hb2 L1.lt
        clear hb2 c0 c1 s1 L1
        obtain ⟨_, _, c0, c1, s1⟩ := id L2
        go_wp2_with fail
        refine (nodeOk_any _ _ _ _ _ _ L2.edges hl).mono ?_
        rintro e3 w3 ⟨rfl, hb3⟩
        rw [HB.out]
        have L3 := L2.step hb3 L2.lt
        clear hb3 c0 c1 s1 L2
        obtain ⟨_, _, c0, c1, s1⟩ := id L3
        go_wp2_with fail
        refine (piecesOf_any _ _ _ _ _ _ L3.edges hnet h9.1 h9.2).mono ?_
        rintro e4 w4 ⟨hb4, q, R, d, rfl, F, hR⟩
        have L4 := L3.step hb4 L3.lt
        have HC : Hid (R x = R y ↔ rep (endsOf es) (bits s) es.length x = rep (endsOf es) (bits s) es.length y) := hR.same (rep_ok (endsOf_ok hnet) _ _ (Nat.le_refl _)) x y
        have W4 : Way (w4.alloc (.cells (arrC q) 115)) w4.heap.size w4.heap.size R (w4.alloc (.cells (arrC q) 115)) := ⟨Below.refl _ _, q, d, Arr.box w4 q (Nat.le_refl _), F⟩
        have B4 := L4.below.alloc (by have := L4.lt; omega) (.cells (arrC q) 115)
        have s4 := L4.lt
        unfold arrC at W4 B4 ⊢
        clear L3 hb4 c0 c1 s1 L4
        go_wp2_with fail
        refine (W4.head hx).mono ?_
        rintro e5 w5 ⟨rfl, W5⟩
        go_wp2_with fail
        refine (W5.head hy).mono ?_
        rintro e6 w6 ⟨rfl, W6⟩
        go_wp2_with fail
        go_returns
        refine ⟨retB ?_, B4.trans (W6.1.mono (by omega))⟩
        rw [HP.out, Bool.eq_iff_iff]
        simp [← HC.out]; omega
      · have HB : Hid (nodeOkB n es b = false) := by simp [Hid, nodeOkB, hnet]; omega
        have HP : Hid (joinedB n es s a b = false) := by simp [Hid, joinedB]; omega
        clear hn ha hb
        go_enter Try.func94, Try.ntmps94
        go_wp2_with fail
        refine (stateOk_any _ _ _ _ _ _ hes' hl).mono ?_
        rintro e1 w1 ⟨rfl, hb1⟩
        rw [HN.out]
        have L1 := (ArgNet.start (cap := cap) (n := n) 53 hes).step hb1 (by simp)
        clear hb1
        obtain ⟨_, _, c0, c1, s1⟩ := id L1
        go_wp2_with fail
        refine (nodeOk_any _ _ _ _ _ _ L1.edges hl).mono ?_
        rintro e2 w2 ⟨rfl, hb2⟩
        rw [HA.out]
        have L2 := L1.step hb2 L1.lt
        clear hb2 c0 c1 s1 L1
        obtain ⟨_, _, c0, c1, s1⟩ := id L2
        go_wp2_with fail
        refine (nodeOk_any _ _ _ _ _ _ L2.edges hl).mono ?_
        rintro e3 w3 ⟨rfl, hb3⟩
        rw [HB.out]
        have L3 := L2.step hb3 L2.lt
        go_wp2_with fail
        go_returns
        exact ⟨by rw [HP.out]; rfl, L3.below⟩
    · have HA : Hid (nodeOkB n es a = false) := by simp [Hid, nodeOkB, hnet]; omega
      have HP : Hid (joinedB n es s a b = false) := by simp [Hid, joinedB]; omega
      clear hn ha
      go_enter Try.func94, Try.ntmps94
      go_wp2_with fail
      refine (stateOk_any _ _ _ _ _ _ hes' hl).mono ?_
      rintro e1 w1 ⟨rfl, hb1⟩
      rw [HN.out]
      have L1 := (ArgNet.start (cap := cap) (n := n) 53 hes).step hb1 (by simp)
      clear hb1
      obtain ⟨_, _, c0, c1, s1⟩ := id L1
      go_wp2_with fail
      refine (nodeOk_any _ _ _ _ _ _ L1.edges hl).mono ?_
      rintro e2 w2 ⟨rfl, hb2⟩
      rw [HA.out]
      have L2 := L1.step hb2 L1.lt
      go_wp2_with fail
      go_returns
      exact ⟨by rw [HP.out]; rfl, L2.below⟩
  · have HN := Lib.hid (not_state hn)
    clear hn
    go_enter Try.func94, Try.ntmps94
    go_wp2_with fail
    refine (stateOk_any _ _ _ _ _ _ hes' hl).mono ?_
    rintro e1 w1 ⟨rfl, hb1⟩
    rw [HN.out]
    go_wp2_with fail
    go_returns
    exact ⟨retB (by simp [joinedB, HN.out]), boxEB hb1⟩

theorem piecesI_lt {n s : Int} {es : List (Int × Int)} (h : stateOkB n es s = true) : piecesI n es s = (piecesB n es s : Nat) ∧ piecesB n es s ≤ 6 := by
  have h1 := (netOkB_iff.1 (stateOkB_net h)).1
  have h2 : piecesB n es s ≤ n.toNat := pcs_le _ _ _ _
  exact ⟨by simp [piecesI, h], by omega⟩
theorem rankI_of {n s : Int} {es : List (Int × Int)} (h : stateOkB n es s = true) : rankI n es s = n - (piecesB n es s : Nat) := by simp [rankI, h]

end Go.Proofs.Ytmdmmebekicpkaa
