/- PiecesIn, JoinedOk, WholeOk, RankOf, RingFreeOk of the program. -/
import Derived.Test.YtdacfeebidhgnaaPiecesOf
import Derived.Test.YtdacfeebidhgnaaEd
namespace Go.Proofs.Ytdacfeebidhgnaa
open Go.RowKit
set_option maxRecDepth 100000

def piecesI (n : Int) (es : List (Int × Int)) (s : Int) : Int := if stateOkB n es s = true then (piecesB n es s : Nat) else -1
def joinedB (n : Int) (es : List (Int × Int)) (s a b : Int) : Bool := stateOkB n es s && ((decide (1 ≤ a) && decide (a ≤ n)) && ((decide (1 ≤ b) && decide (b ≤ n)) && decide (rep (endsOf es) (bits s) es.length a.toNat = rep (endsOf es) (bits s) es.length b.toNat)))
def wholeB (n : Int) (es : List (Int × Int)) (s : Int) : Bool := decide (piecesI n es s = 1)
def rankI (n : Int) (es : List (Int × Int)) (s : Int) : Int := if stateOkB n es s = true then n - (piecesB n es s : Nat) else -1
def freeB (n : Int) (es : List (Int × Int)) (s : Int) : Bool := stateOkB n es s && decide (rankI n es s = thereI n es s)
theorem stateOkB_net {n s : Int} {es : List (Int × Int)} (h : stateOkB n es s = true) : netOkB n es = true := by
  simp [stateOkB] at h; exact h.1

theorem not_state {n s : Int} {es : List (Int × Int)} (h : ¬ stateOkB n es s = true) : stateOkB n es s = false := by simpa using h

set_option maxRecDepth 100000 in
theorem piecesIn_any (n s : Int) (A : Option Addr) (cap : Nat) (es : List (Int × Int)) (w : World) (hes : EdgesIn w w.heap.size A es) (hl : es.length ≤ 1048576) :
    Calls Try.prog 49 #[.agg #[.int .i64 n, .slice A es.length cap], .int .i64 s] w fun e w' => e = .returned (.int .i64 (piecesI n es s)) ∧ Below w.heap.size w w' := by
  have hes' := boxE hes #[.int .i64 n, .slice A es.length cap] 29
  by_cases hn : stateOkB n es s = true
  · have h9 := stateOkB_lt hn
    have hnet := stateOkB_net hn
    have hn6 := (netOkB_iff.1 hnet).1
    obtain ⟨m, rfl⟩ : ∃ m : Nat, n = m := ⟨n.toNat, by omega⟩
    have HN := Lib.hid hn
    have HP : Hid (piecesI m es s = (piecesB m es s : Nat)) := by simp [Hid, piecesI, hn]
    clear hn
    go_enter Try.func49, Try.ntmps49
    go_wp2_with fail
    refine (stateOk_any _ _ _ _ _ _ hes' hl).mono ?_
    rintro e1 w1 ⟨rfl, hb1⟩
    rw [HN.out]
    have L1 := (ArgNet.start (cap := cap) (n := m) 29 hes).step hb1 (by simp)
    obtain ⟨_, _, c0, c1, s1⟩ := id L1
    go_wp2_with fail
    refine (piecesOf_any _ _ _ _ _ _ L1.edges hnet h9.1 h9.2).mono ?_
    rintro e2 w2 ⟨hb2, q, R, d, rfl, F, hR⟩
    have L2 := L1.step hb2 L1.lt
    obtain ⟨_, _, c0, c1, s2⟩ := id L2
    have HC : Hid (cnt R m = piecesB m es s) := hR.cnt_eq (endsOf_ok hnet)
    have A2 := Arr.box w2 (base := w2.heap.size) q (Nat.le_refl _)
    unfold arrC at A2 ⊢
    clear L1 hb2 hb1
    go_wp2_with fail
    refine (count_any _ _ m q R d _ A2 F (by omega)).mono ?_
    rintro e3 w3 ⟨rfl, rfl⟩
    rw [HC.out]
    go_wp2_with fail
    go_returns
    exact ⟨by rw [HP.out]; rfl, L2.below.alloc (by omega) _⟩
  · have HN := Lib.hid (not_state hn)
    clear hn
    go_enter Try.func49, Try.ntmps49
    go_wp2_with fail
    refine (stateOk_any _ _ _ _ _ _ hes' hl).mono ?_
    rintro e1 w1 ⟨rfl, hb1⟩
    rw [HN.out]
    go_wp2_with fail
    go_returns
    exact ⟨retI (by simp [piecesI, HN.out]), boxEB hb1⟩

theorem wholeOk_any (n s : Int) (A : Option Addr) (cap : Nat) (es : List (Int × Int)) (w : World) (hes : EdgesIn w w.heap.size A es) (hl : es.length ≤ 1048576) :
    Calls Try.prog 56 #[.agg #[.int .i64 n, .slice A es.length cap], .int .i64 s] w fun e w' => e = .returned (.bool (wholeB n es s)) ∧ Below w.heap.size w w' := by
  have hes' := boxE hes #[.int .i64 n, .slice A es.length cap] 29
  go_enter Try.func56, Try.ntmps56
  go_wp2_with fail
  refine (piecesIn_any _ _ _ _ _ _ hes' hl).mono ?_
  rintro e1 w1 ⟨rfl, hb1⟩
  have HP : Hid ((piecesI n es s == 1) = wholeB n es s) := by unfold Hid wholeB; rw [Bool.eq_iff_iff]; simp
  generalize piecesI n es s = k at *
  go_wp2_with fail
  go_returns
  exact ⟨by rw [← HP.out]; rfl, boxEB hb1⟩

theorem piecesI_lt {n s : Int} {es : List (Int × Int)} (h : stateOkB n es s = true) : piecesI n es s = (piecesB n es s : Nat) ∧ piecesB n es s ≤ 6 := by
  have h1 := (netOkB_iff.1 (stateOkB_net h)).1
  have h2 : piecesB n es s ≤ n.toNat := pcs_le _ _ _ _
  exact ⟨by simp [piecesI, h], by omega⟩
theorem rankI_of {n s : Int} {es : List (Int × Int)} (h : stateOkB n es s = true) : rankI n es s = n - (piecesB n es s : Nat) := by simp [rankI, h]

theorem rankOf_any (n s : Int) (A : Option Addr) (cap : Nat) (es : List (Int × Int)) (w : World) (hes : EdgesIn w w.heap.size A es) (hl : es.length ≤ 1048576) :
    Calls Try.prog 54 #[.agg #[.int .i64 n, .slice A es.length cap], .int .i64 s] w fun e w' => e = .returned (.int .i64 (rankI n es s)) ∧ Below w.heap.size w w' := by
  have hes' := boxE hes #[.int .i64 n, .slice A es.length cap] 29
  by_cases hn : stateOkB n es s = true
  · have hnet := stateOkB_net hn
    have hn6 := (netOkB_iff.1 hnet).1
    have hp := piecesI_lt hn
    have HP := Lib.hid hp.1
    have hp6 := hp.2
    have HR := Lib.hid (rankI_of hn)
    have HN := Lib.hid hn
    clear hn hp
    go_enter Try.func54, Try.ntmps54
    go_wp2_with fail
    refine (stateOk_any _ _ _ _ _ _ hes' hl).mono ?_
    rintro e1 w1 ⟨rfl, hb1⟩
    rw [HN.out]
    have L1 := (ArgNet.start (cap := cap) (n := n) 29 hes).step hb1 (by simp)
    have hP : ∀ u, ArgNet w u n A cap es → Calls Try.prog 49 #[.agg #[.int .i64 n, .slice A es.length cap], .int .i64 s] u fun e w' => e = .returned (.int .i64 (piecesB n es s : Nat)) ∧ Below u.heap.size u w' := fun u h => by
      have := piecesIn_any n s A cap es u h.edges hl
      rw [HP.out] at this; exact this
    go_wp2_with fail
    refine wp_region_class (fun u => ArgNet w u n A cap es) (by kernel_rfl) (by kernel_rfl) L1.drew ?_
    intro X hX f hf hex
    have k0 : ∀ x, (f x).cell? ⟨w.heap.size, 0, none⟩ = some (.int .i64 n) := fun x => (hf x).c0
    have k1 : ∀ x, (f x).cell? ⟨w.heap.size, 1, none⟩ = some (.slice A es.length cap) := fun x => (hf x).c1
    repeat (go_big_quiet_step (first | (go_at_call 49; with_reducible exact class_of hex (hP _ (hf _)) (hf _).on)))
    refine wpQuiet_nil ?_
    rintro _ ⟨x, rfl⟩
    have L4 := hf x
    go_wp2_with fail
    go_returns
    exact ⟨by rw [HR.out]; rfl, L4.below⟩
  · have HN := Lib.hid (not_state hn)
    clear hn
    go_enter Try.func54, Try.ntmps54
    go_wp2_with fail
    refine (stateOk_any _ _ _ _ _ _ hes' hl).mono ?_
    rintro e1 w1 ⟨rfl, hb1⟩
    rw [HN.out]
    go_wp2_with fail
    go_returns
    exact ⟨retI (by simp [rankI, HN.out]), boxEB hb1⟩

theorem ringFreeOk_any (n s : Int) (A : Option Addr) (cap : Nat) (es : List (Int × Int)) (w : World) (hes : EdgesIn w w.heap.size A es) (hl : es.length ≤ 1048576) :
    Calls Try.prog 53 #[.agg #[.int .i64 n, .slice A es.length cap], .int .i64 s] w fun e w' => e = .returned (.bool (freeB n es s)) ∧ Below w.heap.size w w' := by
  have L0 := ArgNet.start (cap := cap) (n := n) 29 hes
  by_cases hn : stateOkB n es s = true
  · have HF : Hid ((rankI n es s == thereI n es s) = freeB n es s) := by unfold Hid freeB; rw [hn, Bool.true_and, Bool.eq_iff_iff]; simp
    have HN := Lib.hid hn
    clear hn
    have hS : ∀ u, ArgNet w u n A cap es → Calls Try.prog 110 #[.agg #[.int .i64 n, .slice A es.length cap], .int .i64 s] u fun e w' => e = .returned (.bool true) ∧ Below u.heap.size u w' := fun u h => by
      have := stateOk_any n s A cap es u h.edges hl
      rw [HN.out] at this; exact this
    have hR : ∀ u, ArgNet w u n A cap es → Calls Try.prog 54 #[.agg #[.int .i64 n, .slice A es.length cap], .int .i64 s] u fun e w' => e = .returned (.int .i64 (rankI n es s)) ∧ Below u.heap.size u w' := fun u h => rankOf_any n s A cap es u h.edges hl
    have hT : ∀ u, ArgNet w u n A cap es → Calls Try.prog 86 #[.agg #[.int .i64 n, .slice A es.length cap], .int .i64 s] u fun e w' => e = .returned (.int .i64 (thereI n es s)) ∧ Below u.heap.size u w' := fun u h => thereOf_any n s A cap es u h.edges hl
    generalize rankI n es s = r at *
    generalize thereI n es s = t at *
    go_enter Try.func53, Try.ntmps53
    go_wp2_with fail
    refine wp_region_class (fun u => ArgNet w u n A cap es) (by kernel_rfl) (by kernel_rfl) L0.drew ?_
    intro X hX f hf hex
    have k0 : ∀ x, (f x).cell? ⟨w.heap.size, 0, none⟩ = some (.int .i64 n) := fun x => (hf x).c0
    have k1 : ∀ x, (f x).cell? ⟨w.heap.size, 1, none⟩ = some (.slice A es.length cap) := fun x => (hf x).c1
    repeat (go_big_quiet_step (first | (go_at_call 110; with_reducible exact class_of hex (hS _ (hf _)) (hf _).on) | (go_at_call 54; with_reducible exact class_of hex (hR _ (hf _)) (hf _).on) | (go_at_call 86; with_reducible exact class_of hex (hT _ (hf _)) (hf _).on)))
    refine wpQuiet_nil ?_
    rintro _ ⟨x, rfl⟩
    have L4 := hf x
    go_wp2_with fail
    go_returns
    exact ⟨by rw [← HF.out]; rfl, L4.below⟩
  · have HN := Lib.hid (not_state hn)
    clear hn
    have hS : ∀ u, ArgNet w u n A cap es → Calls Try.prog 110 #[.agg #[.int .i64 n, .slice A es.length cap], .int .i64 s] u fun e w' => e = .returned (.bool false) ∧ Below u.heap.size u w' := fun u h => by
      have := stateOk_any n s A cap es u h.edges hl
      rw [HN.out] at this; exact this
    go_enter Try.func53, Try.ntmps53
    go_wp2_with fail
    refine wp_region_class (fun u => ArgNet w u n A cap es) (by kernel_rfl) (by kernel_rfl) L0.drew ?_
    intro X hX f hf hex
    have k0 : ∀ x, (f x).cell? ⟨w.heap.size, 0, none⟩ = some (.int .i64 n) := fun x => (hf x).c0
    have k1 : ∀ x, (f x).cell? ⟨w.heap.size, 1, none⟩ = some (.slice A es.length cap) := fun x => (hf x).c1
    repeat (go_big_quiet_step (first | (go_at_call 110; with_reducible exact class_of hex (hS _ (hf _)) (hf _).on)))
    refine wpQuiet_nil ?_
    rintro _ ⟨x, rfl⟩
    have L4 := hf x
    go_wp2_with fail
    go_returns
    exact ⟨retB (by simp [freeB, HN.out]), L4.below⟩
end Go.Proofs.Ytdacfeebidhgnaa
