/- BothOf of the program and of the reference; and what they are made of. -/
import Derived.Test.YtfflfinhhdhnkabBothL
import Derived.Test.YtfflfinhhdhnkabRowEq
import Derived.Test.YtfflfinhhdhnkabImpl2
import Derived.Test.YtfflfinhhdhnkabSpec2
namespace Go.Proofs.Ytfflfinhhdhnkab
open Go.RowKit
set_option maxRecDepth 100000

theorem getD_some {xs : List Int} {k : Nat} (h : k < xs.length) : xs[k]? = some (xs.getD k 0) := by simp [List.getD, h]

def lenOkB (n : Nat) : Bool := decide (1 ≤ n) && decide (n ≤ 30)
theorem bothOk_len (xs ys : List Int) : bothOkB xs ys = (lenOkB xs.length && lenOkB ys.length) := rfl

end Go.Proofs.Ytfflfinhhdhnkab

/- BothOf of the reference; ChoicesOf of the program and of the reference. -/
namespace Go.Proofs.Ytfflfinhhdhnkab
open Go.RowKit
set_option maxRecDepth 100000

theorem OwnI.empty (w : World) {base : Nat} (hb : base ≤ w.heap.size) : OwnI (w.alloc (.cells #[] 3)) base (.slice (some ⟨w.heap.size, 0, none⟩) 0 0) [] :=
  OwnI.box w [] hb (by simp)

end Go.Proofs.Ytfflfinhhdhnkab

/- JoiningCounts, WholeCounts and ForestCounts of the reference. -/
namespace Go.Proofs.Ytfflfinhhdhnkab
open Go.RowKit
set_option maxRecDepth 100000

theorem pow_named {l : Nat} (h : l ≤ 9) : ∃ P : Nat, 2 ^ l = P ∧ 1 ≤ P ∧ P ≤ 512 ∧ wrap64 (2 ^ l) = (P : Int) ∧ IntKind.i64.wrap (2 ^ l) = (P : Int) := by
  have h2 : 2 ^ l ≤ 2 ^ 9 := Nat.pow_le_pow_right (by omega) h
  have h1 : 1 ≤ 2 ^ l := Nat.one_le_two_pow
  have e : (2 : Int) ^ l = ((2 ^ l : Nat) : Int) := by rw [Int.natCast_pow]; rfl
  refine ⟨2 ^ l, rfl, h1, h2, ?_, ?_⟩
  · rw [e]; generalize 2 ^ l = P at *; unfold wrap64; omega
  · rw [e, IntWalk.i64_left]; generalize 2 ^ l = P at *; unfold wrap64; omega

theorem pieces_one {x : Nat} (h : decide (x = 1) = true) : (x : Int) = 1 := by simp at h; omega
theorem pieces_more1 {x : Nat} (h : decide (x = 1) = false) : ((x : Int) == 1) = false := by simp at h; simp; omega

set_option maxHeartbeats 4000000 in
theorem specWholeCounts_any (n : Int) (A : Option Addr) (cap : Nat) (es : List (Int × Int)) (w : World) (hes : EdgesIn w w.heap.size A es) (hl : es.length ≤ 1048576) :
    Calls Try.prog 41 #[.agg #[.int .i64 n, .slice A es.length cap]] w (GotInts w (wholeL n es)) := by
  have L0 := ArgNet.start (cap := cap) (n := n) 25 hes
  by_cases hok : netOkB n es = true
  · have HNET := Lib.hid (hok)
    have h9 := (netOkB_iff.1 HNET.out).2.1
    have HOK := Lib.hid hok
    have HC := Lib.hid (whole_cnt HOK.out)
    clear hok
    obtain ⟨q, hq⟩ : ∃ q : Nat → Bool, (fun t : Nat => decide (piecesB n es t = 1)) = q := ⟨_, rfl⟩
    have HQ : Hid (∀ t : Nat, q t = decide (piecesB n es t = 1)) := fun t => by rw [← hq]
    rw [hq] at HC
    clear hq
    obtain ⟨P, hP, p1, p2, hp3, hp4⟩ := pow_named h9
    rw [hP] at HC
    have HP := Lib.hid hP
    clear hP
    obtain ⟨L, hL⟩ : ∃ L, wholeL n es = L := ⟨_, rfl⟩
    rw [hL] at HC ⊢
    clear hL
    obtain ⟨i0, hi0, hz0, hz1, hz2⟩ := info_parts int_info
    have hes0 : EdgesIn _ _ A es := L0.edges
    have hwm : IntKind.i64.wrap ((es.length : Int) + 1) = ((es.length + 1 : Nat) : Int) := by rw [IntWalk.i64_in _ (by omega)]; omega
    go_enter Try.func41, Try.ntmps41
    go_wp2_with fail
    refine (specNetOk_any _ _ _ _ _ hes0 hl).mono ?_
    rintro e1 w1 ⟨rfl, hb1⟩
    rw [HNET.out]
    have L1 := L0.step hb1 (by simp)
    clear hb1 hes0 L0
    obtain ⟨_, _, c0, c1, s1⟩ := id L1
    go_wp2_with (at_make; refine wpList_make_full _ rfl _ _ 49 rfl (w.heap.size + 1) 3 i0 _ 1 Try.underlying49 hi0 hz0 hz1 .i64 .i64 (es.length + 1) (es.length + 1) (es.length + 1) rfl rfl rfl rfl (by rw [hz2]; omega) (by simp [maxLen]; omega) (by omega) ?_; intro w2 hown2 hg2)
    have hst : OwnI w2 (w.heap.size + 1) (.slice (some ⟨w1.heap.size, 0, none⟩) (es.length + 1) (es.length + 1)) (cntR q 0 (es.length + 1)) := by
      rw [cntR_zero]
      unfold OwnI; rw [List.length_replicate, ← madeCells_ints]; exact hown2
    have hb2 : Below (w.heap.size + 1) w1 w2 := (Below.refl _ _).grown hg2 (by omega) (by simp)
    have L2 := L1.step hb2 (by omega)
    clear hown2 hg2 hz1 hz2 hi0 hz0 hb2 L1 c0 c1
    generalize hg : w1.heap.size = g at *
    obtain ⟨_, _, c0, c1, s2⟩ := id L2
    go_wp2_with fail
    go_loopw [4] (fun t wr => ∃ s : Nat, s ≤ P ∧ t = .int .i64 (s : Nat) ∧ OwnI wr (w.heap.size + 1) (.slice (some ⟨g, 0, none⟩) (es.length + 1) (es.length + 1)) (cntR q s (es.length + 1)) ∧ ArgNet w wr n A cap es) (fun t _ => P - (intOf t).toNat)
    case atStart => exact ⟨0, by omega, rfl, hst, L2⟩
    case round =>
      clear hst L2
      obtain ⟨s, hs, rfl, own, L3⟩ := hrel
      obtain ⟨_, _, c0, c1, s3⟩ := id L3
      by_cases hlt : s < P
      · have hso := Lib.hid (state_of HNET.out (show s < 2 ^ es.length by rw [HP.out]; exact hlt))
        have hpl : Hid (pop s ≤ es.length) := pop_low (by rw [HP.out]; exact hlt) h9
        have hedges := L3.edges
        cases hv : q s with
        | true =>
          obtain ⟨pb, hone, hcall⟩ : ∃ pb : Int, pb = 1 ∧ ∀ u, EdgesIn u u.heap.size A es → Calls Try.prog 76 #[.agg #[.int .i64 n, .slice A es.length cap], .int .i64 s] u fun e w' => e = .returned (.int .i64 pb) ∧ Below u.heap.size u w' :=
            ⟨(piecesB n es s : Nat), pieces_one ((HQ.out s).symm.trans hv), fun u hu => l2Pieces_any _ _ _ _ _ _ hu hso.out⟩
          subst hone
          go_wp2_with fail
          refine (hcall _ hedges).mono ?_
          rintro e4 w4 ⟨rfl, hb4⟩
          clear hcall
          have L4 := L3.step hb4 L3.lt
          have own4 := own.below hb4 own.lt
          clear own L3 hb4 c0 c1 s3 hedges
          have hhit := Lib.hid (cntR_hit (m := es.length + 1) hv)
          have hpl := hpl.out
          have hcz := cntS_le q s (pop s)
          obtain ⟨x1, f1⟩ := own4.slot (k := pop s) (by omega)
          rw [cntR_getD q s (show pop s < es.length + 1 by omega)] at x1
          have hst := own4.store (pop s) ((cntS q s (pop s) : Nat) + 1)
          rw [hhit.out] at hst
          have HS := Lib.hid hst
          have hgg := own4.ge g rfl
          clear own4 hst hhit hv
          have wz : IntKind.i64.wrap (((cntS q s (pop s) : Nat) : Int) + 1) = ((cntS q s (pop s) : Nat) : Int) + 1 := IntWalk.i64_in _ (by omega)
          have hM : ∀ u, Calls Try.prog 58 #[.int .i64 s] u fun e w' => e = .returned (.int .i64 (pop s)) ∧ u = w' := fun u => l1Many_any s u (by omega)
          generalize cntS q s (pop s) = z at *
          generalize pop s = x at *
          go_wp2_with (go_at_call 58; refine (hM _).mono ?_; rintro _ _ ⟨rfl, rfl⟩)
          go_roundw
          case rel => exact ⟨s + 1, by omega, by go_num, HS.out, L4.step ((Below.refl (w.heap.size + 1) _).setCell (by simpa using hgg) _) (by omega)⟩
          case measure => simp [intOf]; omega
        | false =>
          obtain ⟨pb, hone, hcall⟩ : ∃ pb : Int, (pb == 1) = false ∧ ∀ u, EdgesIn u u.heap.size A es → Calls Try.prog 76 #[.agg #[.int .i64 n, .slice A es.length cap], .int .i64 s] u fun e w' => e = .returned (.int .i64 pb) ∧ Below u.heap.size u w' :=
            ⟨(piecesB n es s : Nat), pieces_more1 ((HQ.out s).symm.trans hv), fun u hu => l2Pieces_any _ _ _ _ _ _ hu hso.out⟩
          go_wp2_with fail
          refine (hcall _ hedges).mono ?_
          rintro e4 w4 ⟨rfl, hb4⟩
          clear hcall
          have L4 := L3.step hb4 L3.lt
          have own4 := own.below hb4 own.lt
          clear own L3 hb4 c0 c1 s3 hedges
          rw [← cntR_miss (m := es.length + 1) hv] at own4
          clear hv
          go_wp2_with fail
          go_roundw
          case rel => exact ⟨s + 1, by omega, by go_num, own4, L4⟩
          case measure => simp [intOf]; omega
      · obtain rfl : s = P := by omega
        rw [HC.out] at own
        have HL : Hid (L.length = es.length + 1) := by rw [Hid, ← HC.out, cntR_length]
        go_wp2_with fail
        go_returns
        exact ⟨some ⟨g, 0, none⟩, es.length + 1, by rw [HL.out]; rfl, by rw [HL.out]; exact own.more (by omega), L3.below⟩
  · have HL : Hid (wholeL n es = []) := if_neg hok
    have HN : Hid (netOkB n es = false) := by simpa [Hid] using hok
    clear hok
    go_enter Try.func41, Try.ntmps41
    go_wp2_with fail
    refine (specNetOk_any _ _ _ _ _ L0.edges hl).mono ?_
    rintro e1 w1 ⟨rfl, hb1⟩
    rw [HN.out]
    have L1 := L0.step hb1 (by simp)
    clear hb1 L0
    obtain ⟨_, _, c0, c1, s1⟩ := id L1
    go_wp2_with fail
    go_returns
    exact ⟨some ⟨w1.heap.size, 0, none⟩, 0, by rw [HL.out]; rfl, by rw [HL.out]; exact OwnI.empty w1 (by omega), L1.below.alloc (by omega) _⟩

set_option maxHeartbeats 4000000 in
theorem specJoiningCounts_any (n a b : Int) (A : Option Addr) (cap : Nat) (es : List (Int × Int)) (w : World) (hes : EdgesIn w w.heap.size A es) (hl : es.length ≤ 1048576) :
    Calls Try.prog 35 #[.agg #[.int .i64 n, .slice A es.length cap], .int .i64 a, .int .i64 b] w (GotInts w (joiningL n es a b)) := by
  have L0 := ArgNet.start (cap := cap) (n := n) 25 hes
  by_cases hok : joinOkB n es a b = true
  · have HNET := Lib.hid ((joinOkB_iff.1 hok).1)
    obtain ⟨-, hA, hB, hne⟩ := joinOkB_iff.1 hok
    have D1 : Hid ((decide (1 ≤ a) && decide (a ≤ n)) = true) := by simp [Hid, hA]
    have D2 : Hid ((decide (1 ≤ b) && decide (b ≤ n)) = true) := by simp [Hid, hB]
    have h9 := (netOkB_iff.1 HNET.out).2.1
    have HOK := Lib.hid hok
    have HC := Lib.hid (joining_cnt HOK.out)
    clear hok
    obtain ⟨q, hq⟩ : ∃ q : Nat → Bool, (fun t : Nat => joinedB n es t a b) = q := ⟨_, rfl⟩
    have HQ : Hid (∀ t : Nat, q t = joinedB n es t a b) := fun t => by rw [← hq]
    rw [hq] at HC
    clear hq
    obtain ⟨P, hP, p1, p2, hp3, hp4⟩ := pow_named h9
    rw [hP] at HC
    have HP := Lib.hid hP
    clear hP
    obtain ⟨L, hL⟩ : ∃ L, joiningL n es a b = L := ⟨_, rfl⟩
    rw [hL] at HC ⊢
    clear hL
    obtain ⟨i0, hi0, hz0, hz1, hz2⟩ := info_parts int_info
    have hes0 : EdgesIn _ _ A es := L0.edges
    have hwm : IntKind.i64.wrap ((es.length : Int) + 1) = ((es.length + 1 : Nat) : Int) := by rw [IntWalk.i64_in _ (by omega)]; omega
    go_enter Try.func35, Try.ntmps35
    go_wp2_with fail
    refine (specNetOk_any _ _ _ _ _ hes0 hl).mono ?_
    rintro e1 w1 ⟨rfl, hb1⟩
    rw [HNET.out]
    have L1 := L0.step hb1 (by simp)
    clear hb1 hes0 L0
    obtain ⟨_, _, c0, c1, s1⟩ := id L1
    go_wp2_with fail
    refine (l1In_any _ _ _ _).mono ?_
    rintro e11 w11 ⟨rfl, rfl⟩
    rw [D1.out]
    go_wp2_with fail
    refine (l1In_any _ _ _ _).mono ?_
    rintro e12 w12 ⟨rfl, rfl⟩
    rw [D2.out]
    go_wp2_with (at_make; refine wpList_make_full _ rfl _ _ 49 rfl (w.heap.size + 1) 3 i0 _ 1 Try.underlying49 hi0 hz0 hz1 .i64 .i64 (es.length + 1) (es.length + 1) (es.length + 1) rfl rfl rfl rfl (by rw [hz2]; omega) (by simp [maxLen]; omega) (by omega) ?_; intro w2 hown2 hg2)
    have hst : OwnI w2 (w.heap.size + 1) (.slice (some ⟨w1.heap.size, 0, none⟩) (es.length + 1) (es.length + 1)) (cntR q 0 (es.length + 1)) := by
      rw [cntR_zero]
      unfold OwnI; rw [List.length_replicate, ← madeCells_ints]; exact hown2
    have hb2 : Below (w.heap.size + 1) w1 w2 := (Below.refl _ _).grown hg2 (by omega) (by simp)
    have L2 := L1.step hb2 (by omega)
    clear hown2 hg2 hz1 hz2 hi0 hz0 hb2 L1 c0 c1
    generalize hg : w1.heap.size = g at *
    obtain ⟨_, _, c0, c1, s2⟩ := id L2
    go_wp2_with fail
    go_loopw [8] (fun t wr => ∃ s : Nat, s ≤ P ∧ t = .int .i64 (s : Nat) ∧ OwnI wr (w.heap.size + 1) (.slice (some ⟨g, 0, none⟩) (es.length + 1) (es.length + 1)) (cntR q s (es.length + 1)) ∧ ArgNet w wr n A cap es) (fun t _ => P - (intOf t).toNat)
    case atStart => exact ⟨0, by omega, rfl, hst, L2⟩
    case round =>
      clear hst L2
      obtain ⟨s, hs, rfl, own, L3⟩ := hrel
      obtain ⟨_, _, c0, c1, s3⟩ := id L3
      by_cases hlt : s < P
      · have hso := Lib.hid (state_of HNET.out (show s < 2 ^ es.length by rw [HP.out]; exact hlt))
        have hpl : Hid (pop s ≤ es.length) := pop_low (by rw [HP.out]; exact hlt) h9
        have hedges := L3.edges
        cases hv : q s with
        | true =>
          have HV : Hid (joinedB n es s a b = true) := (HQ.out s).symm.trans hv
          go_wp2_with fail
          refine (specJoinedOk_any _ _ _ _ _ _ _ _ hedges hl).mono ?_
          rintro e4 w4 ⟨rfl, hb4⟩
          rw [HV.out]
          have L4 := L3.step hb4 L3.lt
          have own4 := own.below hb4 own.lt
          clear own L3 hb4 c0 c1 s3 hedges
          have hhit := Lib.hid (cntR_hit (m := es.length + 1) hv)
          have hpl := hpl.out
          have hcz := cntS_le q s (pop s)
          obtain ⟨x1, f1⟩ := own4.slot (k := pop s) (by omega)
          rw [cntR_getD q s (show pop s < es.length + 1 by omega)] at x1
          have hst := own4.store (pop s) ((cntS q s (pop s) : Nat) + 1)
          rw [hhit.out] at hst
          have HS := Lib.hid hst
          have hgg := own4.ge g rfl
          clear own4 hst hhit hv
          have wz : IntKind.i64.wrap (((cntS q s (pop s) : Nat) : Int) + 1) = ((cntS q s (pop s) : Nat) : Int) + 1 := IntWalk.i64_in _ (by omega)
          have hM : ∀ u, Calls Try.prog 58 #[.int .i64 s] u fun e w' => e = .returned (.int .i64 (pop s)) ∧ u = w' := fun u => l1Many_any s u (by omega)
          generalize cntS q s (pop s) = z at *
          generalize pop s = x at *
          go_wp2_with (go_at_call 58; refine (hM _).mono ?_; rintro _ _ ⟨rfl, rfl⟩)
          go_roundw
          case rel => exact ⟨s + 1, by omega, by go_num, HS.out, L4.step ((Below.refl (w.heap.size + 1) _).setCell (by simpa using hgg) _) (by omega)⟩
          case measure => simp [intOf]; omega
        | false =>
          have HV : Hid (joinedB n es s a b = false) := (HQ.out s).symm.trans hv
          go_wp2_with fail
          refine (specJoinedOk_any _ _ _ _ _ _ _ _ hedges hl).mono ?_
          rintro e4 w4 ⟨rfl, hb4⟩
          rw [HV.out]
          have L4 := L3.step hb4 L3.lt
          have own4 := own.below hb4 own.lt
          clear own L3 hb4 c0 c1 s3 hedges
          rw [← cntR_miss (m := es.length + 1) hv] at own4
          clear hv
          go_wp2_with fail
          go_roundw
          case rel => exact ⟨s + 1, by omega, by go_num, own4, L4⟩
          case measure => simp [intOf]; omega
      · obtain rfl : s = P := by omega
        rw [HC.out] at own
        have HL : Hid (L.length = es.length + 1) := by rw [Hid, ← HC.out, cntR_length]
        go_wp2_with fail
        go_returns
        exact ⟨some ⟨g, 0, none⟩, es.length + 1, by rw [HL.out]; rfl, by rw [HL.out]; exact own.more (by omega), L3.below⟩
  · have HL : Hid (joiningL n es a b = []) := if_neg hok
    by_cases hn : netOkB n es = true
    · have HN := Lib.hid hn
      by_cases ha : 1 ≤ a ∧ a ≤ n
      · have D1 : Hid ((decide (1 ≤ a) && decide (a ≤ n)) = true) := by simp [Hid, ha]
        by_cases hb : 1 ≤ b ∧ b ≤ n
        · have D2 : Hid ((decide (1 ≤ b) && decide (b ≤ n)) = true) := by simp [Hid, hb]
          have hab : a = b := Classical.byContradiction fun h => hok (joinOkB_iff.2 ⟨hn, ha, hb, h⟩)
          subst hab
          clear hok hn
          go_enter Try.func35, Try.ntmps35
          go_wp2_with fail
          refine (specNetOk_any _ _ _ _ _ L0.edges hl).mono ?_
          rintro e1 w1 ⟨rfl, hb1⟩
          rw [HN.out]
          have L1 := L0.step hb1 (by simp)
          clear hb1 L0
          obtain ⟨_, _, c0, c1, s1⟩ := id L1
          go_wp2_with fail
          refine (l1In_any _ _ _ _).mono ?_
          rintro _ _ ⟨rfl, rfl⟩
          rw [D1.out]
          go_wp2_with fail
          refine (l1In_any _ _ _ _).mono ?_
          rintro _ _ ⟨rfl, rfl⟩
          rw [D2.out]
          go_wp2_with fail
          go_returns
          exact ⟨some ⟨w1.heap.size, 0, none⟩, 0, by rw [HL.out]; rfl, by rw [HL.out]; exact OwnI.empty w1 (by omega), L1.below.alloc (by omega) _⟩
        · have D2 : Hid ((decide (1 ≤ b) && decide (b ≤ n)) = false) := by rw [Hid, Bool.eq_false_iff]; intro h; simp at h; exact hb h
          clear hok hn
          go_enter Try.func35, Try.ntmps35
          go_wp2_with fail
          refine (specNetOk_any _ _ _ _ _ L0.edges hl).mono ?_
          rintro e1 w1 ⟨rfl, hb1⟩
          rw [HN.out]
          have L1 := L0.step hb1 (by simp)
          clear hb1 L0
          obtain ⟨_, _, c0, c1, s1⟩ := id L1
          go_wp2_with fail
          refine (l1In_any _ _ _ _).mono ?_
          rintro _ _ ⟨rfl, rfl⟩
          rw [D1.out]
          go_wp2_with fail
          refine (l1In_any _ _ _ _).mono ?_
          rintro _ _ ⟨rfl, rfl⟩
          rw [D2.out]
          go_wp2_with fail
          go_returns
          exact ⟨some ⟨w1.heap.size, 0, none⟩, 0, by rw [HL.out]; rfl, by rw [HL.out]; exact OwnI.empty w1 (by omega), L1.below.alloc (by omega) _⟩
      · have D1 : Hid ((decide (1 ≤ a) && decide (a ≤ n)) = false) := by rw [Hid, Bool.eq_false_iff]; intro h; simp at h; exact ha h
        clear hok hn
        go_enter Try.func35, Try.ntmps35
        go_wp2_with fail
        refine (specNetOk_any _ _ _ _ _ L0.edges hl).mono ?_
        rintro e1 w1 ⟨rfl, hb1⟩
        rw [HN.out]
        have L1 := L0.step hb1 (by simp)
        clear hb1 L0
        obtain ⟨_, _, c0, c1, s1⟩ := id L1
        go_wp2_with fail
        refine (l1In_any _ _ _ _).mono ?_
        rintro _ _ ⟨rfl, rfl⟩
        rw [D1.out]
        go_wp2_with fail
        go_returns
        exact ⟨some ⟨w1.heap.size, 0, none⟩, 0, by rw [HL.out]; rfl, by rw [HL.out]; exact OwnI.empty w1 (by omega), L1.below.alloc (by omega) _⟩
    · have HN : Hid (netOkB n es = false) := by simpa [Hid] using hn
      clear hok hn
      go_enter Try.func35, Try.ntmps35
      go_wp2_with fail
      refine (specNetOk_any _ _ _ _ _ L0.edges hl).mono ?_
      rintro e1 w1 ⟨rfl, hb1⟩
      rw [HN.out]
      have L1 := L0.step hb1 (by simp)
      clear hb1 L0
      obtain ⟨_, _, c0, c1, s1⟩ := id L1
      go_wp2_with fail
      go_returns
      exact ⟨some ⟨w1.heap.size, 0, none⟩, 0, by rw [HL.out]; rfl, by rw [HL.out]; exact OwnI.empty w1 (by omega), L1.below.alloc (by omega) _⟩
end Go.Proofs.Ytfflfinhhdhnkab
