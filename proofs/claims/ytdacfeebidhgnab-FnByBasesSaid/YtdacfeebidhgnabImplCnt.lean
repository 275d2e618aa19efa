/- JoiningCounts, WholeCounts and ForestCounts of the program. -/
import Derived.Test.YtdacfeebidhgnabSpecCnt
import Derived.Test.YtdacfeebidhgnabMade
import Derived.Test.YtdacfeebidhgnabSets
namespace Go.Proofs.Ytdacfeebidhgnab
open Go.RowKit
set_option maxRecDepth 100000

theorem wholeCountsTest_any (n s : Int) (b0 : Nat) (A : Option Addr) (cap : Nat) (es : List (Int × Int)) (u : World) (c0 : u.cell? ⟨b0, 0, none⟩ = some (.int .i64 n)) (c1 : u.cell? ⟨b0, 1, none⟩ = some (.slice A es.length cap)) (hes : EdgesIn u u.heap.size A es) (hl : es.length ≤ 1048576) :
    Calls Try.prog 105 #[.int .i64 s, .pointer (some ⟨b0, 0, none⟩)] u fun e w' => e = .returned (.bool (wholeB n es s)) ∧ Below u.heap.size u w' := by
  go_enter Try.func105, Try.ntmps105
  go_wp2_with fail
  refine (wholeOk_any _ _ _ _ _ _ hes hl).mono ?_
  rintro e1 w1 ⟨rfl, hb1⟩
  go_wp2_with fail
  go_returns
  exact ⟨rfl, hb1⟩

set_option maxHeartbeats 4000000 in
theorem wholeCountsStates_any (n : Int) (b0 : Nat) (A : Option Addr) (cap : Nat) (es : List (Int × Int)) (u : World) (l0 : b0 < u.heap.size) (c0 : u.cell? ⟨b0, 0, none⟩ = some (.int .i64 n)) (c1 : u.cell? ⟨b0, 1, none⟩ = some (.slice A es.length cap)) (hes : EdgesIn u u.heap.size A es) (hok : netOkB n es = true) :
    Calls Try.prog 80 #[.agg #[.int .i64 n, .slice A es.length cap], .func (.func 105) #[] #[.pointer (some ⟨b0, 0, none⟩)]] u (GotInts u (wholeL n es)) := by
  have L0 := ArgNet.start (cap := cap) (n := n) 25 hes
  have HNET := Lib.hid (hok)
  have h9 := (netOkB_iff.1 HNET.out).2.1
  have hl : es.length ≤ 1048576 := by omega
  have HOK := Lib.hid hok
  have HC := Lib.hid (whole_cnt HOK.out)
  clear hok
  obtain ⟨q, hq⟩ : ∃ q : Nat → Bool, (fun t : Nat => decide (piecesB n es t = 1)) = q := ⟨_, rfl⟩
  have HQ : Hid (∀ t : Nat, q t = decide (piecesB n es t = 1)) := fun t => by rw [← hq]
  rw [hq] at HC
  clear hq
  obtain ⟨L, hL⟩ : ∃ L, wholeL n es = L := ⟨_, rfl⟩
  rw [hL] at HC ⊢
  clear hL
  have HB : Hid (∀ v : World, Below u.heap.size u v → EdgesIn v v.heap.size A es → ∀ s : Nat, Calls Try.prog 105 #[.int .i64 s, .pointer (some ⟨b0, 0, none⟩)] v fun e w' => e = .returned (.bool (wholeB n es s)) ∧ Below v.heap.size v w') := fun v hv hev s =>
    wholeCountsTest_any n s b0 A cap es v ((hv.cell (p := ⟨b0, 0, none⟩) l0).trans c0) ((hv.cell (p := ⟨b0, 1, none⟩) l0).trans c1) hev hl
  clear c0 c1
  obtain ⟨_, _, c0, c1, s0⟩ := id L0
  have HCS : Hid (∀ v : World, Below u.heap.size u v → EdgesIn v v.heap.size A es → Calls Try.prog 138 #[.int .i64 es.length, .func (.func 105) #[] #[.pointer (some ⟨b0, 0, none⟩)]] v (GotInts v L)) := fun v hv hev => by
    rw [← HC.out]
    refine setsWhole_any _ es.length q v (by omega) fun v2 hv2 s hs => ?_
    have hso := state_of HNET.out hs
    have e : wholeB n es s = q s := by rw [wholeB, (piecesI_lt hso).1, HQ.out s, Bool.eq_iff_iff]; simp only [decide_eq_true_eq]; omega
    have h := HB.out v2 (hv.trans (hv2.mono hv.size)) ((hev.below hv2 (Nat.le_refl _)).more hv2.size) s
    rw [e] at h; exact h
  clear HC HQ HB
  go_enter Try.func80, Try.ntmps80
  go_wp2_with fail
  refine (HCS.out _ L0.below L0.edges).mono ?_
  rintro e3 w3 ⟨A3, k3, rfl, own3, hb3⟩
  have L3 := L0.step hb3 L0.lt
  go_wp2_with fail
  go_returns
  exact ⟨A3, k3, rfl, own3.more (by simp), L3.below⟩

theorem wholeCounts_any (n : Int) (A : Option Addr) (cap : Nat) (es : List (Int × Int)) (w : World) (hes : EdgesIn w w.heap.size A es) (hl : es.length ≤ 1048576) :
    Calls Try.prog 41 #[.agg #[.int .i64 n, .slice A es.length cap]] w (GotInts w (wholeL n es)) := by
  have hmf : ∀ (fn : Fn) (first cap : Array Value) (w : World), (Instr.makeFunc fn first cap).run Try.prog w = .ok (.func fn first cap) w := fun _ _ _ _ => rfl
  have L0 := ArgNet.start (cap := cap) (n := n) 25 hes
  by_cases hok : netOkB n es = true
  · have HOK := Lib.hid hok
    go_enter Try.func41, Try.ntmps41
    go_wp2_with fail
    refine (netOk_any _ _ _ _ _ L0.edges hl).mono ?_
    rintro e1 w1 ⟨rfl, hb1⟩
    rw [HOK.out]
    have L1 := L0.step hb1 L0.lt
    clear hb1 L0
    obtain ⟨_, _, c0, c1, s1⟩ := id L1
    go_wp2_with fail
    refine (wholeCountsStates_any _ _ _ _ _ _ s1 c0 c1 L1.edges HOK.out).mono ?_
    rintro e2 w2 ⟨A2, c2, rfl, own, hb2⟩
    go_wp2_with fail
    go_returns
    exact ⟨A2, c2, rfl, own.more (by omega), L1.below.trans (hb2.mono (by omega))⟩
  · have HL : Hid (wholeL n es = []) := if_neg hok
    have HN : Hid (netOkB n es = false) := by simpa [Hid] using hok
    clear hok
    go_enter Try.func41, Try.ntmps41
    go_wp2_with fail
    refine (netOk_any _ _ _ _ _ L0.edges hl).mono ?_
    rintro e1 w1 ⟨rfl, hb1⟩
    rw [HN.out]
    have L1 := L0.step hb1 L0.lt
    go_wp2_with fail
    go_returns
    exact ⟨none, 0, by rw [HL.out]; rfl, by rw [HL.out]; exact OwnI.nil _ _, L1.below⟩

theorem forestCountsTest_any (n s : Int) (b0 : Nat) (A : Option Addr) (cap : Nat) (es : List (Int × Int)) (u : World) (c0 : u.cell? ⟨b0, 0, none⟩ = some (.int .i64 n)) (c1 : u.cell? ⟨b0, 1, none⟩ = some (.slice A es.length cap)) (hes : EdgesIn u u.heap.size A es) (hl : es.length ≤ 1048576) :
    Calls Try.prog 81 #[.int .i64 s, .pointer (some ⟨b0, 0, none⟩)] u fun e w' => e = .returned (.bool (freeB n es s)) ∧ Below u.heap.size u w' := by
  go_enter Try.func81, Try.ntmps81
  go_wp2_with fail
  refine (ringFreeOk_any _ _ _ _ _ _ hes hl).mono ?_
  rintro e1 w1 ⟨rfl, hb1⟩
  go_wp2_with fail
  go_returns
  exact ⟨rfl, hb1⟩

set_option maxHeartbeats 4000000 in
theorem forestCountsStates_any (n : Int) (b0 : Nat) (A : Option Addr) (cap : Nat) (es : List (Int × Int)) (u : World) (l0 : b0 < u.heap.size) (c0 : u.cell? ⟨b0, 0, none⟩ = some (.int .i64 n)) (c1 : u.cell? ⟨b0, 1, none⟩ = some (.slice A es.length cap)) (hes : EdgesIn u u.heap.size A es) (hok : netOkB n es = true) :
    Calls Try.prog 80 #[.agg #[.int .i64 n, .slice A es.length cap], .func (.func 81) #[] #[.pointer (some ⟨b0, 0, none⟩)]] u (GotInts u (forestL n es)) := by
  have L0 := ArgNet.start (cap := cap) (n := n) 25 hes
  have HNET := Lib.hid (hok)
  have h9 := (netOkB_iff.1 HNET.out).2.1
  have hl : es.length ≤ 1048576 := by omega
  have HOK := Lib.hid hok
  have HC := Lib.hid (forest_cnt HOK.out)
  clear hok
  obtain ⟨q, hq⟩ : ∃ q : Nat → Bool, (fun t : Nat => freeB n es t) = q := ⟨_, rfl⟩
  have HQ : Hid (∀ t : Nat, q t = freeB n es t) := fun t => by rw [← hq]
  rw [hq] at HC
  clear hq
  obtain ⟨L, hL⟩ : ∃ L, forestL n es = L := ⟨_, rfl⟩
  rw [hL] at HC ⊢
  clear hL
  have HB : Hid (∀ v : World, Below u.heap.size u v → EdgesIn v v.heap.size A es → ∀ s : Nat, Calls Try.prog 81 #[.int .i64 s, .pointer (some ⟨b0, 0, none⟩)] v fun e w' => e = .returned (.bool (freeB n es s)) ∧ Below v.heap.size v w') := fun v hv hev s =>
    forestCountsTest_any n s b0 A cap es v ((hv.cell (p := ⟨b0, 0, none⟩) l0).trans c0) ((hv.cell (p := ⟨b0, 1, none⟩) l0).trans c1) hev hl
  clear c0 c1
  obtain ⟨_, _, c0, c1, s0⟩ := id L0
  have HCS : Hid (∀ v : World, Below u.heap.size u v → EdgesIn v v.heap.size A es → Calls Try.prog 138 #[.int .i64 es.length, .func (.func 81) #[] #[.pointer (some ⟨b0, 0, none⟩)]] v (GotInts v L)) := fun v hv hev => by
    rw [← HC.out]
    refine setsForest_any _ es.length q v (by omega) fun v2 hv2 s hs => ?_
    have hso := state_of HNET.out hs
    have e : freeB n es s = q s := (HQ.out s).symm
    have h := HB.out v2 (hv.trans (hv2.mono hv.size)) ((hev.below hv2 (Nat.le_refl _)).more hv2.size) s
    rw [e] at h; exact h
  clear HC HQ HB
  go_enter Try.func80, Try.ntmps80
  go_wp2_with fail
  refine (HCS.out _ L0.below L0.edges).mono ?_
  rintro e3 w3 ⟨A3, k3, rfl, own3, hb3⟩
  have L3 := L0.step hb3 L0.lt
  go_wp2_with fail
  go_returns
  exact ⟨A3, k3, rfl, own3.more (by simp), L3.below⟩

theorem forestCounts_any (n : Int) (A : Option Addr) (cap : Nat) (es : List (Int × Int)) (w : World) (hes : EdgesIn w w.heap.size A es) (hl : es.length ≤ 1048576) :
    Calls Try.prog 25 #[.agg #[.int .i64 n, .slice A es.length cap]] w (GotInts w (forestL n es)) := by
  have hmf : ∀ (fn : Fn) (first cap : Array Value) (w : World), (Instr.makeFunc fn first cap).run Try.prog w = .ok (.func fn first cap) w := fun _ _ _ _ => rfl
  have L0 := ArgNet.start (cap := cap) (n := n) 25 hes
  by_cases hok : netOkB n es = true
  · have HOK := Lib.hid hok
    go_enter Try.func25, Try.ntmps25
    go_wp2_with fail
    refine (netOk_any _ _ _ _ _ L0.edges hl).mono ?_
    rintro e1 w1 ⟨rfl, hb1⟩
    rw [HOK.out]
    have L1 := L0.step hb1 L0.lt
    clear hb1 L0
    obtain ⟨_, _, c0, c1, s1⟩ := id L1
    go_wp2_with fail
    refine (forestCountsStates_any _ _ _ _ _ _ s1 c0 c1 L1.edges HOK.out).mono ?_
    rintro e2 w2 ⟨A2, c2, rfl, own, hb2⟩
    go_wp2_with fail
    go_returns
    exact ⟨A2, c2, rfl, own.more (by omega), L1.below.trans (hb2.mono (by omega))⟩
  · have HL : Hid (forestL n es = []) := if_neg hok
    have HN : Hid (netOkB n es = false) := by simpa [Hid] using hok
    clear hok
    go_enter Try.func25, Try.ntmps25
    go_wp2_with fail
    refine (netOk_any _ _ _ _ _ L0.edges hl).mono ?_
    rintro e1 w1 ⟨rfl, hb1⟩
    rw [HN.out]
    have L1 := L0.step hb1 L0.lt
    go_wp2_with fail
    go_returns
    exact ⟨none, 0, by rw [HL.out]; rfl, by rw [HL.out]; exact OwnI.nil _ _, L1.below⟩

end Go.Proofs.Ytdacfeebidhgnab
