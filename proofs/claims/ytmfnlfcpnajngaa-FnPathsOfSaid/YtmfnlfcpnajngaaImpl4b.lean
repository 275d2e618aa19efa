/- PathsOf, CutsOf, ShortestOf, ThinnestOf, ApartPaths of the program. -/
import Derived.Test.YtmfnlfcpnajngaaImpl4
import Derived.Test.YtmfnlfcpnajngaaMost
namespace Go.Proofs.Ytmfnlfcpnajngaa
open Go.RowKit
set_option maxRecDepth 100000

theorem joined_state {n : Int} {es : List (Int × Int)} {a b : Int} (h : joinOkB n es a b = true) {t : Nat} (ht : t < 2 ^ es.length) : joinedB n es t a b = joinS es a.toNat b.toNat t := by
  have h' := joinOkB_iff.1 h
  have := joinS_is h'.1 (a := a.toNat) (b := b.toNat) (by omega) (by omega) ht
  rwa [show ((a.toNat : Nat) : Int) = a by omega, show ((b.toNat : Nat) : Int) = b by omega] at this
theorem natI_got {w w' : World} {xs : List Nat} {e : Ending} (h : GotInts w (natI xs) e w') : ∃ A c, e = .returned (.slice A xs.length c) ∧ OwnI w' w.heap.size (.slice A xs.length c) (natI xs) ∧ xs.length ≤ c ∧ Below w.heap.size w w' := by
  obtain ⟨A, c, h1, h2, h3⟩ := h
  have hc := h2.cap
  rw [natI_length] at h1 h2 hc
  exact ⟨A, c, h1, h2, hc, h3⟩

theorem pathsTest_any (n a b s : Int) (b0 b1 b2 : Nat) (A : Option Addr) (cap : Nat) (es : List (Int × Int)) (u : World) (c0 : u.cell? ⟨b0, 0, none⟩ = some (.int .i64 n)) (c1 : u.cell? ⟨b0, 1, none⟩ = some (.slice A es.length cap)) (c2 : u.cell? ⟨b1, 0, none⟩ = some (.int .i64 a)) (c3 : u.cell? ⟨b2, 0, none⟩ = some (.int .i64 b)) (hes : EdgesIn u u.heap.size A es) (hl : es.length ≤ 1048576) :
    Calls Try.prog 46 #[.int .i64 s, .pointer (some ⟨b0, 0, none⟩), .pointer (some ⟨b1, 0, none⟩), .pointer (some ⟨b2, 0, none⟩)] u fun e w' => e = .returned (.bool (joinedB n es s a b)) ∧ Below u.heap.size u w' := by
  go_enter Try.func46, Try.ntmps46
  go_wp2_with fail
  refine (joinedOk_any _ _ _ _ _ _ _ _ hes hl).mono ?_
  rintro e1 w1 ⟨rfl, hb1⟩
  go_wp2_with fail
  go_returns
  exact ⟨rfl, hb1⟩

theorem cutsTest_any (n a b : Int) (s l : Nat) (b0 b1 b2 b3 : Nat) (A : Option Addr) (cap : Nat) (es : List (Int × Int)) (u : World) (c0 : u.cell? ⟨b0, 0, none⟩ = some (.int .i64 n)) (c1 : u.cell? ⟨b0, 1, none⟩ = some (.slice A es.length cap)) (c2 : u.cell? ⟨b1, 0, none⟩ = some (.int .i64 a)) (c3 : u.cell? ⟨b2, 0, none⟩ = some (.int .i64 b))
    (c4 : u.cell? ⟨b3, 0, none⟩ = some (.int .i64 ((2 ^ l - 1 : Nat) : Int))) (hes : EdgesIn u u.heap.size A es) (hl : es.length ≤ 1048576) (h9 : l < 10) (hs : s < 2 ^ l) :
    Calls Try.prog 52 #[.int .i64 s, .pointer (some ⟨b0, 0, none⟩), .pointer (some ⟨b3, 0, none⟩), .pointer (some ⟨b1, 0, none⟩), .pointer (some ⟨b2, 0, none⟩)] u fun e w' => e = .returned (.bool (!joinedB n es (rest l s : Nat) a b)) ∧ Below u.heap.size u w' := by
  have h512 : s < 512 := Nat.lt_of_lt_of_le hs (Nat.pow_le_pow_right (n := 2) (by omega) (show l ≤ 9 by omega))
  have hbits := andNot_all l s h9 h512 hs
  have hr : 2 ^ l - 1 - s = rest l s := rfl
  rw [hr] at hbits
  generalize rest l s = r at *
  generalize 2 ^ l - 1 = Q at *
  clear hr hs
  go_enter Try.func52, Try.ntmps52
  go_wp2_with fail
  refine (joinedOk_any _ _ _ _ _ _ _ _ hes hl).mono ?_
  rintro e1 w1 ⟨rfl, hb1⟩
  go_wp2_with fail
  go_returns
  exact ⟨rfl, hb1⟩

theorem pathsOf_any (n a b : Int) (A : Option Addr) (cap : Nat) (es : List (Int × Int)) (w : World) (hes : EdgesIn w w.heap.size A es) (hl : es.length ≤ 1048576) :
    Calls Try.prog 14 #[.agg #[.int .i64 n, .slice A es.length cap], .int .i64 a, .int .i64 b] w (GotInts w (natI (pathsN n es a b))) := by
  have hmf : ∀ (fn : Fn) (first cap : Array Value) (w : World), (Instr.makeFunc fn first cap).run Try.prog w = .ok (.func fn first cap) w := fun _ _ _ _ => rfl
  have W3 : Below (w.heap.size + 1) (w.alloc (.cells #[.int .i64 n, .slice A es.length cap] 25)) (((w.alloc (.cells #[.int .i64 n, .slice A es.length cap] 25)).alloc (.cells #[.int .i64 a] 3)).alloc (.cells #[.int .i64 b] 3)) :=
    ((Below.refl _ _).alloc (by simp) _).alloc (by simp) _
  have L0 := (ArgNet.start (cap := cap) (n := n) 25 hes).step W3 (by omega)
  obtain ⟨_, _, c0, c1, s0⟩ := id L0
  have c2 : (((w.alloc (.cells #[.int .i64 n, .slice A es.length cap] 25)).alloc (.cells #[.int .i64 a] 3)).alloc (.cells #[.int .i64 b] 3)).cell? ⟨w.heap.size + 1, 0, none⟩ = some (.int .i64 a) := by
    rw [World.cell?_alloc_past _ _ _ (by simp), World.cell?_alloc_at _ _ _ _ (by simp)]; rfl
  have c3 : (((w.alloc (.cells #[.int .i64 n, .slice A es.length cap] 25)).alloc (.cells #[.int .i64 a] 3)).alloc (.cells #[.int .i64 b] 3)).cell? ⟨w.heap.size + 1 + 1, 0, none⟩ = some (.int .i64 b) := by
    rw [World.cell?_alloc_at _ _ _ _ (by simp)]; rfl
  have hz : (((w.alloc (.cells #[.int .i64 n, .slice A es.length cap] 25)).alloc (.cells #[.int .i64 a] 3)).alloc (.cells #[.int .i64 b] 3)).heap.size = w.heap.size + 1 + 1 + 1 := by simp
  by_cases hok : joinOkB n es a b = true
  · have HOK := Lib.hid hok
    have h9 := joinOk_nine hok
    have HP : Hid (pathsN n es a b = leastL es.length (joinS es a.toNat b.toNat)) := if_pos hok
    clear hok
    go_enter Try.func14, Try.ntmps14
    go_wp2_with fail
    refine (pairOk_any _ _ _ _ _ _ _ L0.edges hl).mono ?_
    rintro e1 w1 ⟨rfl, hb1⟩
    rw [HOK.out]
    have L1 := L0.step hb1 L0.lt
    have d2 := (hb1.cell (p := ⟨w.heap.size + 1, 0, none⟩) (by rw [hz]; simp)).trans c2
    have d3 := (hb1.cell (p := ⟨w.heap.size + 1 + 1, 0, none⟩) (by rw [hz]; simp)).trans c3
    have sz := hb1.size
    rw [hz] at sz
    clear hb1 L0 c0 c1 c2 c3 s0 W3 hz
    have HQ : Hid (AskS 46 #[.pointer (some ⟨w.heap.size, 0, none⟩), .pointer (some ⟨w.heap.size + 1, 0, none⟩), .pointer (some ⟨w.heap.size + 1 + 1, 0, none⟩)] es.length (joinS es a.toNat b.toNat) w1) := by
      intro u hu t ht
      have L := L1.step hu L1.lt
      have hj := joined_state HOK.out ht
      rw [← hj]
      exact pathsTest_any n a b t w.heap.size (w.heap.size + 1) (w.heap.size + 1 + 1) A cap es u L.c0 L.c1 ((hu.cell (p := ⟨w.heap.size + 1, 0, none⟩) (by simp; omega)).trans d2) ((hu.cell (p := ⟨w.heap.size + 1 + 1, 0, none⟩) (by simp; omega)).trans d3) L.edges hl
    clear d2 d3
    obtain ⟨_, _, c0, c1, s1⟩ := id L1
    have HL := Lib.hid (leastStates_any 46 _ _ n A cap es w1 L1.edges h9 (fun _ _ => rfl) HQ.out)
    go_wp2_with fail
    refine HL.out.mono ?_
    rintro e2 w2 ⟨A2, k2, rfl, own, hb2⟩
    go_wp2_with fail
    go_returns
    exact ⟨A2, k2, by rw [HP.out]; rfl, by rw [HP.out]; exact own.more (by omega), L1.below.trans (hb2.mono (by omega))⟩
  · have HL : Hid (pathsN n es a b = []) := if_neg hok
    have HN : Hid (joinOkB n es a b = false) := by simpa [Hid] using hok
    clear hok
    go_enter Try.func14, Try.ntmps14
    go_wp2_with fail
    refine (pairOk_any _ _ _ _ _ _ _ L0.edges hl).mono ?_
    rintro e1 w1 ⟨rfl, hb1⟩
    rw [HN.out]
    have L1 := L0.step hb1 L0.lt
    go_wp2_with fail
    go_returns
    exact ⟨none, 0, by rw [HL.out]; rfl, by rw [HL.out]; exact OwnI.nil _ _, L1.below⟩
set_option maxHeartbeats 1000000 in
theorem cutsOf_any (n a b : Int) (A : Option Addr) (cap : Nat) (es : List (Int × Int)) (w : World) (hes : EdgesIn w w.heap.size A es) (hl : es.length ≤ 1048576) :
    Calls Try.prog 19 #[.agg #[.int .i64 n, .slice A es.length cap], .int .i64 a, .int .i64 b] w (GotInts w (natI (cutsN n es a b))) := by
  have hmf : ∀ (fn : Fn) (first cap : Array Value) (w : World), (Instr.makeFunc fn first cap).run Try.prog w = .ok (.func fn first cap) w := fun _ _ _ _ => rfl
  have W3 : Below (w.heap.size + 1) (w.alloc (.cells #[.int .i64 n, .slice A es.length cap] 25)) (((w.alloc (.cells #[.int .i64 n, .slice A es.length cap] 25)).alloc (.cells #[.int .i64 a] 3)).alloc (.cells #[.int .i64 b] 3)) :=
    ((Below.refl _ _).alloc (by simp) _).alloc (by simp) _
  have L0 := (ArgNet.start (cap := cap) (n := n) 25 hes).step W3 (by omega)
  obtain ⟨_, _, c0, c1, s0⟩ := id L0
  have c2 : (((w.alloc (.cells #[.int .i64 n, .slice A es.length cap] 25)).alloc (.cells #[.int .i64 a] 3)).alloc (.cells #[.int .i64 b] 3)).cell? ⟨w.heap.size + 1, 0, none⟩ = some (.int .i64 a) := by
    rw [World.cell?_alloc_past _ _ _ (by simp), World.cell?_alloc_at _ _ _ _ (by simp)]; rfl
  have c3 : (((w.alloc (.cells #[.int .i64 n, .slice A es.length cap] 25)).alloc (.cells #[.int .i64 a] 3)).alloc (.cells #[.int .i64 b] 3)).cell? ⟨w.heap.size + 1 + 1, 0, none⟩ = some (.int .i64 b) := by
    rw [World.cell?_alloc_at _ _ _ _ (by simp)]; rfl
  have hz : (((w.alloc (.cells #[.int .i64 n, .slice A es.length cap] 25)).alloc (.cells #[.int .i64 a] 3)).alloc (.cells #[.int .i64 b] 3)).heap.size = w.heap.size + 1 + 1 + 1 := by simp
  by_cases hok : joinOkB n es a b = true
  · have HOK := Lib.hid hok
    have h9 := joinOk_nine hok
    have HP : Hid (cutsN n es a b = leastL es.length (dual es.length (joinS es a.toNat b.toNat))) := if_pos hok
    clear hok
    go_enter Try.func19, Try.ntmps19
    go_wp2_with fail
    refine (pairOk_any _ _ _ _ _ _ _ L0.edges hl).mono ?_
    rintro e1 w1 ⟨rfl, hb1⟩
    rw [HOK.out]
    have L1 := L0.step hb1 L0.lt
    have d2 := (hb1.cell (p := ⟨w.heap.size + 1, 0, none⟩) (by rw [hz]; simp)).trans c2
    have d3 := (hb1.cell (p := ⟨w.heap.size + 1 + 1, 0, none⟩) (by rw [hz]; simp)).trans c3
    have sz := hb1.size
    rw [hz] at sz
    clear hb1 L0 c0 c1 c2 c3 s0 W3 hz
    obtain ⟨_, _, c0, c1, s1⟩ := id L1
    have hsc := stateCount_any n A cap es w1 h9
    have hpow := Nat.one_le_two_pow (n := es.length)
    have hpow9 : 2 ^ es.length ≤ 512 := Nat.pow_le_pow_right (n := 2) (by omega) h9
    obtain ⟨P, hP⟩ : ∃ P, 2 ^ es.length = P := ⟨_, rfl⟩
    rw [hP] at hsc hpow hpow9
    have HPw := Lib.hid hP
    clear hP
    have wq : IntKind.i64.wrap ((P : Int) - 1) = ((P - 1 : Nat) : Int) := by rw [IntWalk.i64_in _ (by omega)]; omega
    go_wp2_with fail
    refine hsc.mono ?_
    rintro e2 w2 ⟨rfl, hb2⟩
    have L2 := L1.step hb2 L1.lt
    have f2 := (hb2.cell (p := ⟨w.heap.size + 1, 0, none⟩) (by simp; omega)).trans d2
    have f3 := (hb2.cell (p := ⟨w.heap.size + 1 + 1, 0, none⟩) (by simp; omega)).trans d3
    have sz2 := hb2.size
    have hbx := (Below.refl w2.heap.size w2).alloc (Nat.le_refl _) (.cells #[.int .i64 ((P - 1 : Nat) : Int)] 3)
    have L3 := L2.step hbx L2.lt
    have g2 := (hbx.cell (p := ⟨w.heap.size + 1, 0, none⟩) (by simp; omega)).trans f2
    have g3 := (hbx.cell (p := ⟨w.heap.size + 1 + 1, 0, none⟩) (by simp; omega)).trans f3
    have g4 : (w2.alloc (.cells #[.int .i64 ((P - 1 : Nat) : Int)] 3)).cell? ⟨w2.heap.size, 0, none⟩ = some (.int .i64 ((P - 1 : Nat) : Int)) := by rw [World.cell?_alloc_at _ _ _ _ (by simp)]; rfl
    clear hsc hb2 hbx d2 d3 f2 f3 c0 c1 L1
    have HQ : Hid (AskS 52 #[.pointer (some ⟨w.heap.size, 0, none⟩), .pointer (some ⟨w2.heap.size, 0, none⟩), .pointer (some ⟨w.heap.size + 1, 0, none⟩), .pointer (some ⟨w.heap.size + 1 + 1, 0, none⟩)] es.length (dual es.length (joinS es a.toNat b.toNat)) (w2.alloc (.cells #[.int .i64 ((P - 1 : Nat) : Int)] 3))) := by
      intro u hu t ht
      have L := L3.step hu L3.lt
      have hj := joined_state HOK.out (rest_lt es.length t)
      have hd : dual es.length (joinS es a.toNat b.toNat) t = !joinedB n es (rest es.length t : Nat) a b := by rw [hj]; rfl
      rw [hd]
      exact cutsTest_any n a b t es.length w.heap.size (w.heap.size + 1) (w.heap.size + 1 + 1) w2.heap.size A cap es u L.c0 L.c1 ((hu.cell (p := ⟨w.heap.size + 1, 0, none⟩) (by simp; omega)).trans g2) ((hu.cell (p := ⟨w.heap.size + 1 + 1, 0, none⟩) (by simp; omega)).trans g3)
        (by rw [HPw.out]; exact (hu.cell (p := ⟨w2.heap.size, 0, none⟩) (by simp)).trans g4) L.edges hl (by omega) ht
    clear g2 g3 g4
    obtain ⟨_, _, c0, c1, s2⟩ := id L3
    have HL := Lib.hid (leastStates_any 52 _ _ n A cap es _ L3.edges h9 (fun _ _ => rfl) HQ.out)
    go_wp2_with fail
    refine HL.out.mono ?_
    rintro e3 w3 ⟨A3, k3, rfl, own, hb3⟩
    go_wp2_with fail
    go_returns
    exact ⟨A3, k3, by rw [HP.out]; rfl, by rw [HP.out]; exact own.more (by simp; omega), L3.below.trans (hb3.mono (by simp; omega))⟩
  · have HL : Hid (cutsN n es a b = []) := if_neg hok
    have HN : Hid (joinOkB n es a b = false) := by simpa [Hid] using hok
    clear hok
    go_enter Try.func19, Try.ntmps19
    go_wp2_with fail
    refine (pairOk_any _ _ _ _ _ _ _ L0.edges hl).mono ?_
    rintro e1 w1 ⟨rfl, hb1⟩
    rw [HN.out]
    have L1 := L0.step hb1 L0.lt
    go_wp2_with fail
    go_returns
    exact ⟨none, 0, by rw [HL.out]; rfl, by rw [HL.out]; exact OwnI.nil _ _, L1.below⟩

theorem shortestOf_any (n a b : Int) (A : Option Addr) (cap : Nat) (es : List (Int × Int)) (w : World) (hes : EdgesIn w w.heap.size A es) (hl : es.length ≤ 1048576) :
    Calls Try.prog 25 #[.agg #[.int .i64 n, .slice A es.length cap], .int .i64 a, .int .i64 b] w fun e w' => e = .returned (.int .i64 (minAll (pathsN n es a b))) ∧ Below w.heap.size w w' := by
  have L0 := ArgNet.start (cap := cap) (n := n) 25 hes
  have hlen := pathsN_len n es a b
  have hx : ∀ x ∈ pathsN n es a b, x < 512 := fun x => pathsN_lt
  have HC := Lib.hid (pathsOf_any n a b A cap es _ L0.edges hl)
  generalize pathsN n es a b = xs at *
  have HX := Lib.hid hx
  clear hx
  obtain ⟨_, _, c0, c1, s0⟩ := id L0
  go_enter Try.func25, Try.ntmps25
  go_wp2_with fail
  refine HC.out.mono ?_
  rintro e1 w1 h1
  obtain ⟨A1, k1, rfl, own1, _, hb1⟩ := natI_got h1
  have L1 := L0.step hb1 L0.lt
  clear h1 L0 c0 c1
  go_wp2_with fail
  refine (fewestThere_any A1 k1 xs w1 own1.ints (by omega) HX.out).mono ?_
  rintro e2 w2 ⟨rfl, rfl⟩
  go_wp2_with fail
  go_returns
  exact ⟨rfl, L1.below⟩

theorem thinnestOf_any (n a b : Int) (A : Option Addr) (cap : Nat) (es : List (Int × Int)) (w : World) (hes : EdgesIn w w.heap.size A es) (hl : es.length ≤ 1048576) :
    Calls Try.prog 29 #[.agg #[.int .i64 n, .slice A es.length cap], .int .i64 a, .int .i64 b] w fun e w' => e = .returned (.int .i64 (minAll (cutsN n es a b))) ∧ Below w.heap.size w w' := by
  have L0 := ArgNet.start (cap := cap) (n := n) 25 hes
  have hlen := cutsN_len n es a b
  have hx : ∀ x ∈ cutsN n es a b, x < 512 := fun x => cutsN_lt
  have HC := Lib.hid (cutsOf_any n a b A cap es _ L0.edges hl)
  generalize cutsN n es a b = xs at *
  have HX := Lib.hid hx
  clear hx
  obtain ⟨_, _, c0, c1, s0⟩ := id L0
  go_enter Try.func29, Try.ntmps29
  go_wp2_with fail
  refine HC.out.mono ?_
  rintro e1 w1 h1
  obtain ⟨A1, k1, rfl, own1, _, hb1⟩ := natI_got h1
  have L1 := L0.step hb1 L0.lt
  clear h1 L0 c0 c1
  go_wp2_with fail
  refine (fewestThere_any A1 k1 xs w1 own1.ints (by omega) HX.out).mono ?_
  rintro e2 w2 ⟨rfl, rfl⟩
  go_wp2_with fail
  go_returns
  exact ⟨rfl, L1.below⟩

theorem apartPaths_any (n a b : Int) (A : Option Addr) (cap : Nat) (es : List (Int × Int)) (w : World) (hes : EdgesIn w w.heap.size A es) (hl : es.length ≤ 1048576) :
    Calls Try.prog 31 #[.agg #[.int .i64 n, .slice A es.length cap], .int .i64 a, .int .i64 b] w fun e w' => e = .returned (.int .i64 (apartI n es a b)) ∧ Below w.heap.size w w' := by
  have L0 := ArgNet.start (cap := cap) (n := n) 25 hes
  by_cases hok : joinOkB n es a b = true
  · have HOK := Lib.hid hok
    have HV : Hid (apartI n es a b = (aparts (pathsN n es a b) 0 : Nat)) := if_pos hok
    have hlen := pathsN_len n es a b
    have hx : ∀ x ∈ pathsN n es a b, x < 512 := fun x => pathsN_lt
    have HC : Hid (∀ u, EdgesIn u u.heap.size A es → Calls Try.prog 14 #[.agg #[.int .i64 n, .slice A es.length cap], .int .i64 a, .int .i64 b] u (GotInts u (natI (pathsN n es a b)))) := fun u hu => pathsOf_any n a b A cap es u hu hl
    have HM := Lib.hid (mostApart_any 512 (pathsN n es a b) hlen (by omega) hx)
    generalize pathsN n es a b = xs at *
    clear hok hx
    obtain ⟨_, _, c0, c1, s0⟩ := id L0
    go_enter Try.func31, Try.ntmps31
    go_wp2_with fail
    refine (pairOk_any _ _ _ _ _ _ _ L0.edges hl).mono ?_
    rintro e1 w1 ⟨rfl, hb1⟩
    rw [HOK.out]
    have L1 := L0.step hb1 L0.lt
    clear hb1 L0 c0 c1 s0
    obtain ⟨_, _, c0, c1, s0⟩ := id L1
    go_wp2_with fail
    refine (HC.out _ L1.edges).mono ?_
    rintro e2 w2 h2
    obtain ⟨A2, k2, rfl, own2, hcap, hb2⟩ := natI_got h2
    have L2 := L1.step hb2 L1.lt
    clear h2 hb2 L1 c0 c1 s0
    go_wp2_with fail
    refine (HM.out A2 k2 w2 own2.ints hcap).mono ?_
    rintro e3 w3 ⟨rfl, hb3⟩
    have L3 := L2.step hb3 L2.lt
    go_wp2_with fail
    go_returns
    exact ⟨retI HV.out.symm, L3.below⟩
  · have HV : Hid (apartI n es a b = -1) := if_neg hok
    have HN : Hid (joinOkB n es a b = false) := by simpa [Hid] using hok
    clear hok
    obtain ⟨_, _, c0, c1, s0⟩ := id L0
    go_enter Try.func31, Try.ntmps31
    go_wp2_with fail
    refine (pairOk_any _ _ _ _ _ _ _ L0.edges hl).mono ?_
    rintro e1 w1 ⟨rfl, hb1⟩
    rw [HN.out]
    have L1 := L0.step hb1 L0.lt
    go_wp2_with fail
    go_returns
    exact ⟨retI HV.out.symm, L1.below⟩
end Go.Proofs.Ytmfnlfcpnajngaa
