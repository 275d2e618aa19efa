/- JoiningCounts, WholeCounts and ForestCounts of the program. -/
import Derived.Test.YtmdmmebekicpkaaSpecCnt
import Derived.Test.YtmdmmebekicpkaaMade
import Derived.Test.YtmdmmebekicpkaaSets
namespace Go.Proofs.Ytmdmmebekicpkaa
open Go.RowKit
set_option maxRecDepth 100000

theorem pairOk_any (n a b : Int) (A : Option Addr) (cap : Nat) (es : List (Int × Int)) (w : World) (hes : EdgesIn w w.heap.size A es) (hl : es.length ≤ 1048576) :
    Calls Try.prog 87 #[.agg #[.int .i64 n, .slice A es.length cap], .int .i64 a, .int .i64 b] w fun e w' => e = .returned (.bool (joinOkB n es a b)) ∧ Below w.heap.size w w' := by
  have L0 := ArgNet.start (cap := cap) (n := n) 53 hes
  cases ha : nodeOkB n es a with
  | false =>
    have HA := Lib.hid ha
    have HJ : Hid (joinOkB n es a b = false) := by
      rw [Hid, Bool.eq_false_iff]
      intro h
      have := joinOkB_iff.1 h
      simp [nodeOkB, this] at ha
    clear ha
    go_enter Try.func87, Try.ntmps87
    go_wp2_with fail
    refine (nodeOk_any _ _ _ _ _ _ L0.edges hl).mono ?_
    rintro e1 w1 ⟨rfl, hb1⟩
    rw [HA.out]
    have L1 := L0.step hb1 L0.lt
    go_wp2_with fail
    go_returns
    exact ⟨retB HJ.out.symm, L1.below⟩
  | true =>
    have HA := Lib.hid ha
    cases hb : nodeOkB n es b with
    | false =>
      have HB := Lib.hid hb
      have HJ : Hid (joinOkB n es a b = false) := by
        rw [Hid, Bool.eq_false_iff]
        intro h
        have := joinOkB_iff.1 h
        simp [nodeOkB, this] at hb
      clear ha hb
      go_enter Try.func87, Try.ntmps87
      go_wp2_with fail
      refine (nodeOk_any _ _ _ _ _ _ L0.edges hl).mono ?_
      rintro e1 w1 ⟨rfl, hb1⟩
      rw [HA.out]
      have L1 := L0.step hb1 L0.lt
      clear hb1 L0
      obtain ⟨_, _, c0, c1, s1⟩ := id L1
      go_wp2_with fail
      refine (nodeOk_any _ _ _ _ _ _ L1.edges hl).mono ?_
      rintro e2 w2 ⟨rfl, hb2⟩
      rw [HB.out]
      have L2 := L1.step hb2 L1.lt
      go_wp2_with fail
      go_returns
      exact ⟨retB HJ.out.symm, L2.below⟩
    | true =>
      have HB := Lib.hid hb
      have HJ : Hid (joinOkB n es a b = !decide (a = b)) := by
        simp only [nodeOkB, Bool.and_eq_true, decide_eq_true_eq] at ha hb
        simp [Hid, joinOkB, ha, hb]
      clear ha hb
      by_cases hab : a = b
      · subst hab
        go_enter Try.func87, Try.ntmps87
        go_wp2_with fail
        refine (nodeOk_any _ _ _ _ _ _ L0.edges hl).mono ?_
        rintro e1 w1 ⟨rfl, hb1⟩
        rw [HA.out]
        have L1 := L0.step hb1 L0.lt
        clear hb1 L0
        obtain ⟨_, _, c0, c1, s1⟩ := id L1
        go_wp2_with fail
        refine (nodeOk_any _ _ _ _ _ _ L1.edges hl).mono ?_
        rintro e2 w2 ⟨rfl, hb2⟩
        rw [HA.out]
        have L2 := L1.step hb2 L1.lt
        go_wp2_with fail
        go_returns
        exact ⟨retB (by rw [HJ.out]; simp), L2.below⟩
      · have HAB := Lib.hid hab
        have hne : (a != b) = true := by simpa using hab
        clear hab
        go_enter Try.func87, Try.ntmps87
        go_wp2_with fail
        refine (nodeOk_any _ _ _ _ _ _ L0.edges hl).mono ?_
        rintro e1 w1 ⟨rfl, hb1⟩
        rw [HA.out]
        have L1 := L0.step hb1 L0.lt
        clear hb1 L0
        obtain ⟨_, _, c0, c1, s1⟩ := id L1
        go_wp2_with fail
        refine (nodeOk_any _ _ _ _ _ _ L1.edges hl).mono ?_
        rintro e2 w2 ⟨rfl, hb2⟩
        rw [HB.out]
        have L2 := L1.step hb2 L1.lt
        go_wp2_with fail
        go_returns
        exact ⟨retB (by rw [HJ.out]; simp [HAB.out]), L2.below⟩

theorem joiningCountsTest_any (n a b s : Int) (b0 b1 b2 : Nat) (A : Option Addr) (cap : Nat) (es : List (Int × Int)) (u : World) (c0 : u.cell? ⟨b0, 0, none⟩ = some (.int .i64 n)) (c1 : u.cell? ⟨b0, 1, none⟩ = some (.slice A es.length cap)) (c2 : u.cell? ⟨b1, 0, none⟩ = some (.int .i64 a)) (c3 : u.cell? ⟨b2, 0, none⟩ = some (.int .i64 b)) (hes : EdgesIn u u.heap.size A es) (hl : es.length ≤ 1048576) :
    Calls Try.prog 93 #[.int .i64 s, .pointer (some ⟨b0, 0, none⟩), .pointer (some ⟨b1, 0, none⟩), .pointer (some ⟨b2, 0, none⟩)] u fun e w' => e = .returned (.bool (joinedB n es s a b)) ∧ Below u.heap.size u w' := by
  go_enter Try.func93, Try.ntmps93
  go_wp2_with fail
  refine (joinedOk_any _ _ _ _ _ _ _ _ hes hl).mono ?_
  rintro e1 w1 ⟨rfl, hb1⟩
  go_wp2_with fail
  go_returns
  exact ⟨rfl, hb1⟩

set_option maxHeartbeats 4000000 in
theorem joiningCountsStates_any (n a b : Int) (b0 b1 b2 : Nat) (A : Option Addr) (cap : Nat) (es : List (Int × Int)) (u : World) (l0 : b0 < u.heap.size) (l1 : b1 < u.heap.size) (l2 : b2 < u.heap.size) (c0 : u.cell? ⟨b0, 0, none⟩ = some (.int .i64 n)) (c1 : u.cell? ⟨b0, 1, none⟩ = some (.slice A es.length cap)) (c2 : u.cell? ⟨b1, 0, none⟩ = some (.int .i64 a)) (c3 : u.cell? ⟨b2, 0, none⟩ = some (.int .i64 b)) (hes : EdgesIn u u.heap.size A es) (hok : joinOkB n es a b = true) :
    Calls Try.prog 92 #[.agg #[.int .i64 n, .slice A es.length cap], .func (.func 93) #[] #[.pointer (some ⟨b0, 0, none⟩), .pointer (some ⟨b1, 0, none⟩), .pointer (some ⟨b2, 0, none⟩)]] u (GotInts u (joiningL n es a b)) := by
  have L0 := ArgNet.start (cap := cap) (n := n) 53 hes
  have HNET := Lib.hid ((joinOkB_iff.1 hok).1)
  have h9 := (netOkB_iff.1 HNET.out).2.1
  have hl : es.length ≤ 1048576 := by omega
  have HOK := Lib.hid hok
  have HC := Lib.hid (joining_cnt HOK.out)
  clear hok
  obtain ⟨q, hq⟩ : ∃ q : Nat → Bool, (fun t : Nat => joinedB n es t a b) = q := ⟨_, rfl⟩
  have HQ : Hid (∀ t : Nat, q t = joinedB n es t a b) := fun t => by rw [← hq]
  rw [hq] at HC
  clear hq
  obtain ⟨L, hL⟩ : ∃ L, joiningL n es a b = L := ⟨_, rfl⟩
  rw [hL] at HC ⊢
  clear hL
  have HB : Hid (∀ v : World, Below u.heap.size u v → EdgesIn v v.heap.size A es → ∀ s : Nat, Calls Try.prog 93 #[.int .i64 s, .pointer (some ⟨b0, 0, none⟩), .pointer (some ⟨b1, 0, none⟩), .pointer (some ⟨b2, 0, none⟩)] v fun e w' => e = .returned (.bool (joinedB n es s a b)) ∧ Below v.heap.size v w') := fun v hv hev s =>
    joiningCountsTest_any n a b s b0 b1 b2 A cap es v ((hv.cell (p := ⟨b0, 0, none⟩) l0).trans c0) ((hv.cell (p := ⟨b0, 1, none⟩) l0).trans c1) ((hv.cell (p := ⟨b1, 0, none⟩) l1).trans c2) ((hv.cell (p := ⟨b2, 0, none⟩) l2).trans c3) hev hl
  clear c0 c1 c2 c3
  obtain ⟨_, _, c0, c1, s0⟩ := id L0
  have HCS : Hid (∀ v : World, Below u.heap.size u v → EdgesIn v v.heap.size A es → Calls Try.prog 126 #[.int .i64 es.length, .func (.func 93) #[] #[.pointer (some ⟨b0, 0, none⟩), .pointer (some ⟨b1, 0, none⟩), .pointer (some ⟨b2, 0, none⟩)]] v (GotInts v L)) := fun v hv hev => by
    rw [← HC.out]
    refine setsJoining_any _ _ _ es.length q v (by omega) fun v2 hv2 s hs => ?_
    have hso := state_of HNET.out hs
    have e : joinedB n es s a b = q s := (HQ.out s).symm
    have h := HB.out v2 (hv.trans (hv2.mono hv.size)) ((hev.below hv2 (Nat.le_refl _)).more hv2.size) s
    rw [e] at h; exact h
  clear HC HQ HB
  go_enter Try.func92, Try.ntmps92
  go_wp2_with fail
  refine (HCS.out _ L0.below L0.edges).mono ?_
  rintro e3 w3 ⟨A3, k3, rfl, own3, hb3⟩
  have L3 := L0.step hb3 L0.lt
  go_wp2_with fail
  go_returns
  exact ⟨A3, k3, rfl, own3.more (by simp), L3.below⟩

theorem joiningCounts_any (n a b : Int) (A : Option Addr) (cap : Nat) (es : List (Int × Int)) (w : World) (hes : EdgesIn w w.heap.size A es) (hl : es.length ≤ 1048576) :
    Calls Try.prog 46 #[.agg #[.int .i64 n, .slice A es.length cap], .int .i64 a, .int .i64 b] w (GotInts w (joiningL n es a b)) := by
  have hmf : ∀ (fn : Fn) (first cap : Array Value) (w : World), (Instr.makeFunc fn first cap).run Try.prog w = .ok (.func fn first cap) w := fun _ _ _ _ => rfl
  have W3 : Below (w.heap.size + 1) (w.alloc (.cells #[.int .i64 n, .slice A es.length cap] 53)) (((w.alloc (.cells #[.int .i64 n, .slice A es.length cap] 53)).alloc (.cells #[.int .i64 a] 3)).alloc (.cells #[.int .i64 b] 3)) :=
    ((Below.refl _ _).alloc (by simp) _).alloc (by simp) _
  have L0 := (ArgNet.start (cap := cap) (n := n) 53 hes).step W3 (by omega)
  obtain ⟨_, _, c0, c1, s0⟩ := id L0
  have c2 : (((w.alloc (.cells #[.int .i64 n, .slice A es.length cap] 53)).alloc (.cells #[.int .i64 a] 3)).alloc (.cells #[.int .i64 b] 3)).cell? ⟨w.heap.size + 1, 0, none⟩ = some (.int .i64 a) := by
    rw [World.cell?_alloc_past _ _ _ (by simp), World.cell?_alloc_at _ _ _ _ (by simp)]; rfl
  have c3 : (((w.alloc (.cells #[.int .i64 n, .slice A es.length cap] 53)).alloc (.cells #[.int .i64 a] 3)).alloc (.cells #[.int .i64 b] 3)).cell? ⟨w.heap.size + 1 + 1, 0, none⟩ = some (.int .i64 b) := by
    rw [World.cell?_alloc_at _ _ _ _ (by simp)]; rfl
  have hz : (((w.alloc (.cells #[.int .i64 n, .slice A es.length cap] 53)).alloc (.cells #[.int .i64 a] 3)).alloc (.cells #[.int .i64 b] 3)).heap.size = w.heap.size + 1 + 1 + 1 := by simp
  by_cases hok : joinOkB n es a b = true
  · have HOK := Lib.hid hok
    clear hok
    go_enter Try.func46, Try.ntmps46
    go_wp2_with fail
    refine (pairOk_any _ _ _ _ _ _ _ L0.edges hl).mono ?_
    rintro e1 w1 ⟨rfl, hb1⟩
    rw [HOK.out]
    have L1 := L0.step hb1 L0.lt
    have d2 := (hb1.cell (p := ⟨w.heap.size + 1, 0, none⟩) (by rw [hz]; simp)).trans c2
    have d3 := (hb1.cell (p := ⟨w.heap.size + 1 + 1, 0, none⟩) (by rw [hz]; simp)).trans c3
    have sz := hb1.size
    rw [hz] at sz
    clear hb1 L0 c0 c1 c2 c3 s0 W3 hz
    obtain ⟨_, _, c0, c1, s1⟩ := id L1
    go_wp2_with fail
    refine (joiningCountsStates_any _ _ _ _ _ _ _ _ _ _ s1 (by omega) (by omega) c0 c1 d2 d3 L1.edges HOK.out).mono ?_
    rintro e2 w2 ⟨A2, k2, rfl, own, hb2⟩
    go_wp2_with fail
    go_returns
    exact ⟨A2, k2, rfl, own.more (by omega), L1.below.trans (hb2.mono (by omega))⟩
  · have HL : Hid (joiningL n es a b = []) := if_neg hok
    have HN : Hid (joinOkB n es a b = false) := by simpa [Hid] using hok
    clear hok
    go_enter Try.func46, Try.ntmps46
    go_wp2_with fail
    refine (pairOk_any _ _ _ _ _ _ _ L0.edges hl).mono ?_
    rintro e1 w1 ⟨rfl, hb1⟩
    rw [HN.out]
    have L1 := L0.step hb1 L0.lt
    go_wp2_with fail
    go_returns
    exact ⟨none, 0, by rw [HL.out]; rfl, by rw [HL.out]; exact OwnI.nil _ _, L1.below⟩
end Go.Proofs.Ytmdmmebekicpkaa
