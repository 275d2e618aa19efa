/- JoiningCounts, WholeCounts and ForestCounts of the program. -/
import Derived.Test.YtdahpkgbhlkmbaaSpecCnt
import Derived.Test.YtdahpkgbhlkmbaaMade
namespace Go.Proofs.Ytdahpkgbhlkmbaa
open Go.RowKit
set_option maxRecDepth 100000

theorem pairOk_any (n a b : Int) (A : Option Addr) (cap : Nat) (es : List (Int × Int)) (w : World) (hes : EdgesIn w w.heap.size A es) (hl : es.length ≤ 1048576) :
    Calls Try.prog 41 #[.agg #[.int .i64 n, .slice A es.length cap], .int .i64 a, .int .i64 b] w fun e w' => e = .returned (.bool (joinOkB n es a b)) ∧ Below w.heap.size w w' := by
  have L0 := ArgNet.start (cap := cap) (n := n) 25 hes
  cases ha : nodeOkB n es a with
  | false =>
    have HA := Lib.hid ha
    have HJ : Hid (joinOkB n es a b = false) := by
      rw [Hid, Bool.eq_false_iff]
      intro h
      have := joinOkB_iff.1 h
      simp [nodeOkB, this] at ha
    clear ha
    go_enter Try.func41, Try.ntmps41
    go_wp2_with fail
    refine (nodeOk_any _ _ _ _ _ _ L0.edges hl).mono ?_
    rintro e1 w1 ⟨rfl, hb1⟩
    rw [HA.out]
    have L1 := L0.step hb1 L0.lt
    go_wp2_with fail
    go_returns
    exact ⟨retB HJ.out.symm, L1.below⟩
  | true =>
    have HA := Lib.hid ha
    cases hb : nodeOkB n es b with
    | false =>
      have HB := Lib.hid hb
      have HJ : Hid (joinOkB n es a b = false) := by
        rw [Hid, Bool.eq_false_iff]
        intro h
        have := joinOkB_iff.1 h
        simp [nodeOkB, this] at hb
      clear ha hb
      go_enter Try.func41, Try.ntmps41
      go_wp2_with fail
      refine (nodeOk_any _ _ _ _ _ _ L0.edges hl).mono ?_
      rintro e1 w1 ⟨rfl, hb1⟩
      rw [HA.out]
      have L1 := L0.step hb1 L0.lt
      clear hb1 L0
      obtain ⟨_, _, c0, c1, s1⟩ := id L1
      go_wp2_with fail
      refine (nodeOk_any _ _ _ _ _ _ L1.edges hl).mono ?_
      rintro e2 w2 ⟨rfl, hb2⟩
      rw [HB.out]
      have L2 := L1.step hb2 L1.lt
      go_wp2_with fail
      go_returns
      exact ⟨retB HJ.out.symm, L2.below⟩
    | true =>
      have HB := Lib.hid hb
      have HJ : Hid (joinOkB n es a b = !decide (a = b)) := by
        simp only [nodeOkB, Bool.and_eq_true, decide_eq_true_eq] at ha hb
        simp [Hid, joinOkB, ha, hb]
      clear ha hb
      by_cases hab : a = b
      · subst hab
        go_enter Try.func41, Try.ntmps41
        go_wp2_with fail
        refine (nodeOk_any _ _ _ _ _ _ L0.edges hl).mono ?_
        rintro e1 w1 ⟨rfl, hb1⟩
        rw [HA.out]
        have L1 := L0.step hb1 L0.lt
        clear hb1 L0
        obtain ⟨_, _, c0, c1, s1⟩ := id L1
        go_wp2_with fail
        refine (nodeOk_any _ _ _ _ _ _ L1.edges hl).mono ?_
        rintro e2 w2 ⟨rfl, hb2⟩
        rw [HA.out]
        have L2 := L1.step hb2 L1.lt
        go_wp2_with fail
        go_returns
        exact ⟨retB (by rw [HJ.out]; simp), L2.below⟩
      · have HAB := Lib.hid hab
        have hne : (a != b) = true := by simpa using hab
        clear hab
        go_enter Try.func41, Try.ntmps41
        go_wp2_with fail
        refine (nodeOk_any _ _ _ _ _ _ L0.edges hl).mono ?_
        rintro e1 w1 ⟨rfl, hb1⟩
        rw [HA.out]
        have L1 := L0.step hb1 L0.lt
        clear hb1 L0
        obtain ⟨_, _, c0, c1, s1⟩ := id L1
        go_wp2_with fail
        refine (nodeOk_any _ _ _ _ _ _ L1.edges hl).mono ?_
        rintro e2 w2 ⟨rfl, hb2⟩
        rw [HB.out]
        have L2 := L1.step hb2 L1.lt
        go_wp2_with fail
        go_returns
        exact ⟨retB (by rw [HJ.out]; simp [HAB.out]), L2.below⟩

theorem joiningCountsTest_any (n a b s : Int) (b0 b1 b2 : Nat) (A : Option Addr) (cap : Nat) (es : List (Int × Int)) (u : World) (c0 : u.cell? ⟨b0, 0, none⟩ = some (.int .i64 n)) (c1 : u.cell? ⟨b0, 1, none⟩ = some (.slice A es.length cap)) (c2 : u.cell? ⟨b1, 0, none⟩ = some (.int .i64 a)) (c3 : u.cell? ⟨b2, 0, none⟩ = some (.int .i64 b)) (hes : EdgesIn u u.heap.size A es) (hl : es.length ≤ 1048576) :
    Calls Try.prog 62 #[.int .i64 s, .pointer (some ⟨b0, 0, none⟩), .pointer (some ⟨b1, 0, none⟩), .pointer (some ⟨b2, 0, none⟩)] u fun e w' => e = .returned (.bool (joinedB n es s a b)) ∧ Below u.heap.size u w' := by
  go_enter Try.func62, Try.ntmps62
  go_wp2_with fail
  refine (joinedOk_any _ _ _ _ _ _ _ _ hes hl).mono ?_
  rintro e1 w1 ⟨rfl, hb1⟩
  go_wp2_with fail
  go_returns
  exact ⟨rfl, hb1⟩

set_option maxHeartbeats 4000000 in
theorem joiningCountsStates_any (n a b : Int) (b0 b1 b2 : Nat) (A : Option Addr) (cap : Nat) (es : List (Int × Int)) (u : World) (l0 : b0 < u.heap.size) (l1 : b1 < u.heap.size) (l2 : b2 < u.heap.size) (c0 : u.cell? ⟨b0, 0, none⟩ = some (.int .i64 n)) (c1 : u.cell? ⟨b0, 1, none⟩ = some (.slice A es.length cap)) (c2 : u.cell? ⟨b1, 0, none⟩ = some (.int .i64 a)) (c3 : u.cell? ⟨b2, 0, none⟩ = some (.int .i64 b)) (hes : EdgesIn u u.heap.size A es) (hok : joinOkB n es a b = true) :
    Calls Try.prog 61 #[.agg #[.int .i64 n, .slice A es.length cap], .func (.func 62) #[] #[.pointer (some ⟨b0, 0, none⟩), .pointer (some ⟨b1, 0, none⟩), .pointer (some ⟨b2, 0, none⟩)]] u (GotInts u (joiningL n es a b)) := by
  have L0 := ArgNet.start (cap := cap) (n := n) 25 hes
  have HNET := Lib.hid ((joinOkB_iff.1 hok).1)
  have h9 := (netOkB_iff.1 HNET.out).2.1
  have hl : es.length ≤ 1048576 := by omega
  have HOK := Lib.hid hok
  have HC := Lib.hid (joining_cnt HOK.out)
  clear hok
  obtain ⟨q, hq⟩ : ∃ q : Nat → Bool, (fun t : Nat => joinedB n es t a b) = q := ⟨_, rfl⟩
  have HQ : Hid (∀ t : Nat, q t = joinedB n es t a b) := fun t => by rw [← hq]
  rw [hq] at HC
  clear hq
  have hsc := stateCount_any n A cap es
  obtain ⟨P, hP, p1, p2, hp3, hp4⟩ := pow_named h9
  rw [hP] at HC
  have HP := Lib.hid hP
  have HSC : Hid (∀ v : World, Calls Try.prog 51 #[.agg #[.int .i64 n, .slice A es.length cap]] v fun e w' => e = .returned (.int .i64 (P : Nat)) ∧ Below v.heap.size v w') := fun v => by
    have := hsc v h9; rw [hP] at this; exact this
  clear hP hsc hp3 hp4
  obtain ⟨L, hL⟩ : ∃ L, joiningL n es a b = L := ⟨_, rfl⟩
  rw [hL] at HC ⊢
  clear hL
  obtain ⟨i0, hi0, hz0, hz1, hz2⟩ := info_parts int_info
  have hwm : IntKind.i64.wrap ((es.length : Int) + 1) = ((es.length + 1 : Nat) : Int) := by rw [IntWalk.i64_in _ (by omega)]; omega
  have HB : Hid (∀ v : World, Below u.heap.size u v → EdgesIn v v.heap.size A es → ∀ s : Nat, Calls Try.prog 62 #[.int .i64 s, .pointer (some ⟨b0, 0, none⟩), .pointer (some ⟨b1, 0, none⟩), .pointer (some ⟨b2, 0, none⟩)] v fun e w' => e = .returned (.bool (joinedB n es s a b)) ∧ Below v.heap.size v w') := fun v hv hev s =>
    joiningCountsTest_any n a b s b0 b1 b2 A cap es v ((hv.cell (p := ⟨b0, 0, none⟩) l0).trans c0) ((hv.cell (p := ⟨b0, 1, none⟩) l0).trans c1) ((hv.cell (p := ⟨b1, 0, none⟩) l1).trans c2) ((hv.cell (p := ⟨b2, 0, none⟩) l2).trans c3) hev hl
  clear c0 c1 c2 c3
  obtain ⟨_, _, c0, c1, s0⟩ := id L0
  go_enter Try.func61, Try.ntmps61
  go_wp2_with (at_make; refine wpList_make_full _ rfl _ _ 31 rfl (u.heap.size + 1) 3 i0 _ 1 Try.underlying31 hi0 hz0 hz1 .i64 .i64 (es.length + 1) (es.length + 1) (es.length + 1) rfl rfl rfl rfl (by rw [hz2]; omega) (by simp [maxLen]; omega) (by simp) ?_; intro w2 hown2 hg2; have hb2 : Below (u.heap.size + 1) _ w2 := (Below.refl _ _).grown hg2 (by simp) (by simp); have L2 := L0.step hb2 (by omega); obtain ⟨_, _, c0, c1, s2⟩ := id L2)
  have hst : OwnI w2 (u.heap.size + 1) (.slice (some ⟨u.heap.size + 1, 0, none⟩) (es.length + 1) (es.length + 1)) (cntR q 0 (es.length + 1)) := by
    rw [cntR_zero]
    simp only [World.size_alloc] at hown2
    unfold OwnI; rw [List.length_replicate, ← madeCells_ints]; exact hown2
  clear hown2 hg2 hz1 hz2 hi0 hz0 hb2 L0
  refine (HSC.out _).mono ?_
  rintro e3 w3 ⟨rfl, hb3⟩
  have L3 := L2.step hb3 L2.lt
  have hst3 := hst.below hb3 hst.lt
  clear hst hb3 L2 c0 c1
  go_wp2_with fail
  go_loopw [6, 14] (fun _ t wr => ∃ s : Nat, s ≤ P ∧ t = .int .i64 (s : Nat) ∧ OwnI wr (u.heap.size + 1) (.slice (some ⟨u.heap.size + 1, 0, none⟩) (es.length + 1) (es.length + 1)) (cntR q s (es.length + 1)) ∧ ArgNet u wr n A cap es) (fun _ t _ => P - (intOf t).toNat)
  case atStart => exact ⟨0, by omega, rfl, hst3, L3⟩
  case round =>
    clear hst3 L3
    obtain ⟨s, hs, rfl, own, L3⟩ := hrel
    obtain ⟨_, _, c0, c1, s3⟩ := id L3
    by_cases hlt : s < P
    · have hso := Lib.hid (state_of HNET.out (show s < 2 ^ es.length by rw [HP.out]; exact hlt))
      have hpl : Hid (pop s ≤ es.length) := pop_low (by rw [HP.out]; exact hlt) h9
      have hcall := HB.out wr L3.below L3.edges s
      cases hv : q s with
      | true =>
        have HV : Hid (joinedB n es s a b = true) := (HQ.out s).symm.trans hv
        rw [HV.out] at hcall
        go_wp2_with fail
        refine hcall.mono ?_
        clear hcall
        rintro e4 w4 ⟨rfl, hb4⟩
        have L4 := L3.step hb4 L3.lt
        have own4 := own.below hb4 own.lt
        clear own L3 hb4 c0 c1 s3
        have hhit := Lib.hid (cntR_hit (m := es.length + 1) hv)
        have hpl := hpl.out
        have hcz := cntS_le q s (pop s)
        obtain ⟨x1, f1⟩ := own4.slot (k := pop s) (by omega)
        rw [cntR_getD q s (show pop s < es.length + 1 by omega)] at x1
        have hst := own4.store (pop s) ((cntS q s (pop s) : Nat) + 1)
        rw [hhit.out] at hst
        have HS := Lib.hid hst
        clear own4 hst hhit hv
        have wz : IntKind.i64.wrap (((cntS q s (pop s) : Nat) : Int) + 1) = ((cntS q s (pop s) : Nat) : Int) + 1 := IntWalk.i64_in _ (by omega)
        have hM : ∀ v, Calls Try.prog 57 #[.int .u64 s] v fun e w' => e = .returned (.int .i64 (pop s)) ∧ v = w' := fun v => size_any s v (by omega)
        generalize cntS q s (pop s) = z at *
        generalize pop s = x at *
        go_wp2_with fail
        refine (hM _).mono ?_
        rintro e5 w5 ⟨rfl, rfl⟩
        go_wp2_with fail
        go_roundw
        case rel => exact ⟨s + 1, by omega, by go_num, HS.out, L4.step ((Below.refl (u.heap.size + 1) _).setCell (by simp) _) (by omega)⟩
        case measure => simp [intOf]; omega
      | false =>
        have HV : Hid (joinedB n es s a b = false) := (HQ.out s).symm.trans hv
        rw [HV.out] at hcall
        go_wp2_with fail
        refine hcall.mono ?_
        clear hcall
        rintro e4 w4 ⟨rfl, hb4⟩
        have L4 := L3.step hb4 L3.lt
        have own4 := own.below hb4 own.lt
        clear own L3 hb4 c0 c1 s3
        rw [← cntR_miss (m := es.length + 1) hv] at own4
        clear hv
        go_wp2_with fail
        go_roundw
        case rel => exact ⟨s + 1, by omega, by go_num, own4, L4⟩
        case measure => simp [intOf]; omega
    · obtain rfl : s = P := by omega
      rw [HC.out] at own
      have HL : Hid (L.length = es.length + 1) := by rw [Hid, ← HC.out, cntR_length]
      go_wp2_with fail
      go_returns
      exact ⟨some ⟨u.heap.size + 1, 0, none⟩, es.length + 1, by rw [HL.out]; rfl, by rw [HL.out]; exact own.more (by omega), L3.below⟩

theorem joiningCounts_any (n a b : Int) (A : Option Addr) (cap : Nat) (es : List (Int × Int)) (w : World) (hes : EdgesIn w w.heap.size A es) (hl : es.length ≤ 1048576) :
    Calls Try.prog 26 #[.agg #[.int .i64 n, .slice A es.length cap], .int .i64 a, .int .i64 b] w (GotInts w (joiningL n es a b)) := by
  have hmf : ∀ (fn : Fn) (first cap : Array Value) (w : World), (Instr.makeFunc fn first cap).run Try.prog w = .ok (.func fn first cap) w := fun _ _ _ _ => rfl
  have W3 : Below (w.heap.size + 1) (w.alloc (.cells #[.int .i64 n, .slice A es.length cap] 25)) (((w.alloc (.cells #[.int .i64 n, .slice A es.length cap] 25)).alloc (.cells #[.int .i64 a] 3)).alloc (.cells #[.int .i64 b] 3)) :=
    ((Below.refl _ _).alloc (by simp) _).alloc (by simp) _
  have L0 := (ArgNet.start (cap := cap) (n := n) 25 hes).step W3 (by omega)
  obtain ⟨_, _, c0, c1, s0⟩ := id L0
  have c2 : (((w.alloc (.cells #[.int .i64 n, .slice A es.length cap] 25)).alloc (.cells #[.int .i64 a] 3)).alloc (.cells #[.int .i64 b] 3)).cell? ⟨w.heap.size + 1, 0, none⟩ = some (.int .i64 a) := by
    rw [World.cell?_alloc_past _ _ _ (by simp), World.cell?_alloc_at _ _ _ _ (by simp)]; rfl
  have c3 : (((w.alloc (.cells #[.int .i64 n, .slice A es.length cap] 25)).alloc (.cells #[.int .i64 a] 3)).alloc (.cells #[.int .i64 b] 3)).cell? ⟨w.heap.size + 1 + 1, 0, none⟩ = some (.int .i64 b) := by
    rw [World.cell?_alloc_at _ _ _ _ (by simp)]; rfl
  have hz : (((w.alloc (.cells #[.int .i64 n, .slice A es.length cap] 25)).alloc (.cells #[.int .i64 a] 3)).alloc (.cells #[.int .i64 b] 3)).heap.size = w.heap.size + 1 + 1 + 1 := by simp
  by_cases hok : joinOkB n es a b = true
  · have HOK := Lib.hid hok
    clear hok
    go_enter Try.func26, Try.ntmps26
    go_wp2_with fail
    refine (pairOk_any _ _ _ _ _ _ _ L0.edges hl).mono ?_
    rintro e1 w1 ⟨rfl, hb1⟩
    rw [HOK.out]
    have L1 := L0.step hb1 L0.lt
    have d2 := (hb1.cell (p := ⟨w.heap.size + 1, 0, none⟩) (by rw [hz]; simp)).trans c2
    have d3 := (hb1.cell (p := ⟨w.heap.size + 1 + 1, 0, none⟩) (by rw [hz]; simp)).trans c3
    have sz := hb1.size
    rw [hz] at sz
    clear hb1 L0 c0 c1 c2 c3 s0 W3 hz
    obtain ⟨_, _, c0, c1, s1⟩ := id L1
    go_wp2_with fail
    refine (joiningCountsStates_any _ _ _ _ _ _ _ _ _ _ s1 (by omega) (by omega) c0 c1 d2 d3 L1.edges HOK.out).mono ?_
    rintro e2 w2 ⟨A2, k2, rfl, own, hb2⟩
    go_wp2_with fail
    go_returns
    exact ⟨A2, k2, rfl, own.more (by omega), L1.below.trans (hb2.mono (by omega))⟩
  · have HL : Hid (joiningL n es a b = []) := if_neg hok
    have HN : Hid (joinOkB n es a b = false) := by simpa [Hid] using hok
    clear hok
    go_enter Try.func26, Try.ntmps26
    go_wp2_with fail
    refine (pairOk_any _ _ _ _ _ _ _ L0.edges hl).mono ?_
    rintro e1 w1 ⟨rfl, hb1⟩
    rw [HN.out]
    have L1 := L0.step hb1 L0.lt
    go_wp2_with fail
    go_returns
    exact ⟨none, 0, by rw [HL.out]; rfl, by rw [HL.out]; exact OwnI.nil _ _, L1.below⟩
end Go.Proofs.Ytdahpkgbhlkmbaa
