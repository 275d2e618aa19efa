/- Chapter 11 of the program: BasesOf, ActiveOf. -/
import Derived.Test.YtdacfeebidhgnaaBases
import Derived.Test.YtdacfeebidhgnaaImpl9
import Derived.Test.YtdacfeebidhgnaaImpl2
import Derived.Test.YtdacfeebidhgnaaAllSets
import Derived.Test.YtdacfeebidhgnaaSpecCnt
import Derived.Test.YtdacfeebidhgnaaImplCnt
namespace Go.Proofs.Ytdacfeebidhgnaa
open Go.RowKit
set_option maxRecDepth 100000

set_option maxHeartbeats 4000000 in
theorem baseOk_any (n s : Int) (A : Option Addr) (cap : Nat) (es : List (Int × Int)) (w : World) (hes : EdgesIn w w.heap.size A es) (hl : es.length ≤ 1048576) :
    Calls Try.prog 71 #[.agg #[.int .i64 n, .slice A es.length cap], .int .i64 s] w fun e w' => e = .returned (.bool (leastV n es s)) ∧ Below w.heap.size w w' := by
  have L0 := ArgNet.start (cap := cap) (n := n) 29 hes
  have HF : Hid (∀ u, ArgNet w u n A cap es → Calls Try.prog 53 #[.agg #[.int .i64 n, .slice A es.length cap], .int .i64 s] u fun e w' => e = .returned (.bool (freeB n es s)) ∧ Below u.heap.size u w') := fun u h => ringFreeOk_any n s A cap es u h.edges hl
  have HR : Hid (∀ u, ArgNet w u n A cap es → Calls Try.prog 54 #[.agg #[.int .i64 n, .slice A es.length cap], .int .i64 s] u fun e w' => e = .returned (.int .i64 (rankI n es s)) ∧ Below u.heap.size u w') := fun u h => rankOf_any n s A cap es u h.edges hl
  cases hv : freeB n es s with
  | false =>
    have HV : Hid (leastV n es s = false) := by
      unfold Hid leastV
      cases hs : stateOkB n es s with
      | false => rfl
      | true => rw [leastS_rank hs, hv]; rfl
    rw [hv] at HF
    clear hv hes HR
    go_enter Try.func71, Try.ntmps71
    go_wp2_with fail
    refine wp_region_class (fun u => ArgNet w u n A cap es) (by kernel_rfl) (by kernel_rfl) L0.drew ?_
    clear L0
    intro X hX f hf hex
    have k0 : ∀ x, (f x).cell? ⟨w.heap.size, 0, none⟩ = some (.int .i64 n) := fun x => (hf x).c0
    have k1 : ∀ x, (f x).cell? ⟨w.heap.size, 1, none⟩ = some (.slice A es.length cap) := fun x => (hf x).c1
    repeat (go_big_quiet_step (first | (go_at_call 53; with_reducible exact class_of hex (HF.out _ (hf _)) (hf _).on)))
    refine wpQuiet_nil ?_
    rintro _ ⟨x, rfl⟩
    have F := hf x
    go_wp2_with fail
    go_returns
    exact ⟨retB HV.out.symm, F.below⟩
  | true =>
    have hs : stateOkB n es s = true := by
      cases hs : stateOkB n es s with
      | true => rfl
      | false => rw [free_not hs] at hv; cases hv
    have hn := stateOkB_net hs
    have h9 := (netOkB_iff.1 hn).2.1
    obtain ⟨P, hP, p1, p2, hp3, hp4⟩ := pow_named h9
    obtain ⟨Q, hQ⟩ : ∃ Q, P - 1 = Q := ⟨_, rfl⟩
    have HV : Hid (leastV n es s = decide (rankI n es s = rankI n es ((Q : Nat) : Int))) := by
      unfold Hid leastV
      rw [hs, Bool.true_and, leastS_rank hs, hv, Bool.true_and, hP, hQ]
    have HA : Hid (∀ u, ArgNet w u n A cap es → Calls Try.prog 54 #[.agg #[.int .i64 n, .slice A es.length cap], .int .i64 (Q : Nat)] u fun e w' => e = .returned (.int .i64 (rankI n es ((Q : Nat) : Int))) ∧ Below u.heap.size u w') := fun u h => rankOf_any n _ A cap es u h.edges hl
    have HSC : Hid (∀ u, ArgNet w u n A cap es → Calls Try.prog 82 #[.agg #[.int .i64 n, .slice A es.length cap]] u fun e w' => e = .returned (.int .i64 (P : Nat)) ∧ Below u.heap.size u w') := fun u h => by
      have := stateCount_any n A cap es u h9
      rw [hP] at this; exact this
    have wq : IntKind.i64.wrap ((P : Int) - 1) = (Q : Int) := by rw [IntWalk.i64_in _ (by omega)]; omega
    rw [hv] at HF
    generalize rankI n es s = a at *
    generalize rankI n es ((Q : Nat) : Int) = b at *
    clear hv hes hs hn hP hQ hp3 hp4 h9
    go_enter Try.func71, Try.ntmps71
    go_wp2_with fail
    refine wp_region_class (fun u => ArgNet w u n A cap es) (by kernel_rfl) (by kernel_rfl) L0.drew ?_
    clear L0
    intro X hX f hf hex
    have k0 : ∀ x, (f x).cell? ⟨w.heap.size, 0, none⟩ = some (.int .i64 n) := fun x => (hf x).c0
    have k1 : ∀ x, (f x).cell? ⟨w.heap.size, 1, none⟩ = some (.slice A es.length cap) := fun x => (hf x).c1
    repeat (go_big_quiet_step (first | (go_at_call 53; with_reducible exact class_of hex (HF.out _ (hf _)) (hf _).on) | (go_at_call 82; with_reducible exact class_of hex (HSC.out _ (hf _)) (hf _).on) | (go_at_call 54; with_reducible exact class_of hex (HR.out _ (hf _)) (hf _).on) | (go_at_call 54; with_reducible exact class_of hex (HA.out _ (hf _)) (hf _).on)))
    refine wpQuiet_nil ?_
    rintro _ ⟨x, rfl⟩
    have F := hf x
    go_wp2_with fail
    go_returns
    exact ⟨retB (by rw [HV.out]; first | rfl | simp), F.below⟩

theorem baseFn_any (n s : Int) (A : Option Addr) (cap : Nat) (es : List (Int × Int)) (w u : World) (hl : es.length ≤ 1048576) (L : ArgNet w u n A cap es) :
    Calls Try.prog 70 #[.int .i64 s, .pointer (some ⟨w.heap.size, 0, none⟩)] u fun e w' => e = .returned (.bool (leastV n es s)) ∧ Below u.heap.size u w' := by
  have HC := Lib.hid (baseOk_any n s A cap es u L.edges hl)
  obtain ⟨_, _, c0, c1, s0⟩ := id L
  generalize leastV n es s = v at *
  go_enter Try.func70, Try.ntmps70
  go_wp2_with fail
  refine HC.out.mono ?_
  rintro e1 w1 ⟨rfl, hb⟩
  go_wp2_with fail
  go_returns
  exact ⟨rfl, hb⟩

set_option maxHeartbeats 4000000 in
theorem basesOf_any (n : Int) (A : Option Addr) (cap : Nat) (es : List (Int × Int)) (w : World) (hes : EdgesIn w w.heap.size A es) (hl : es.length ≤ 1048576) :
    Calls Try.prog 21 #[.agg #[.int .i64 n, .slice A es.length cap]] w (GotInts w (natI (basesN n es))) := by
  have hmf : ∀ (fn : Fn) (first cap : Array Value) (w : World), (Instr.makeFunc fn first cap).run Try.prog w = .ok (.func fn first cap) w := fun _ _ _ _ => rfl
  have L0 := ArgNet.start (cap := cap) (n := n) 29 hes
  have HN : Hid (∀ u, ArgNet w u n A cap es → Calls Try.prog 37 #[.agg #[.int .i64 n, .slice A es.length cap]] u fun e w' => e = .returned (.bool (netOkB n es)) ∧ Below u.heap.size u w') := fun u h => netOk_any n A cap es u h.edges hl
  obtain ⟨_, _, c0, c1, s0⟩ := id L0
  cases hn : netOkB n es with
  | false =>
    have HV : Hid (basesN n es = []) := by unfold Hid basesN; rw [hn]; rfl
    rw [HV.out]
    rw [hn] at HN
    clear hes hn
    go_enter Try.func21, Try.ntmps21
    go_wp2_with fail
    refine (HN.out _ L0).mono ?_
    rintro e1 w1 ⟨rfl, hb1⟩
    have L1 := L0.step hb1 L0.lt
    go_wp2_with fail
    go_returns
    exact ⟨none, 0, rfl, OwnI.nil _ _, L1.below⟩
  | true =>
    have h9 := (netOkB_iff.1 hn).2.1
    have HV : Hid (natI (basesN n es) = (natI (List.range (2 ^ es.length))).filter fun x => leastV n es x) := by
      unfold Hid basesN leastK'
      rw [if_pos hn, natI_filter]
      congr 1
      refine List.filter_congr fun t ht => ?_
      unfold leastV
      rw [state_of hn (List.mem_range.1 ht), Bool.true_and]
    have hlen : (natI (List.range (2 ^ es.length))).length ≤ 1048576 := by
      rw [natI_length, List.length_range]; have := Nat.pow_le_pow_right (n := 2) (by omega) h9; omega
    have HA : Hid (∀ u, Calls Try.prog 69 #[.int .i64 (es.length : Nat)] u (GotInts u (natI (List.range (2 ^ es.length))))) := fun u => allSets_any es.length u h9
    have HS : Hid (∀ (u : World) (A1 : Option Addr) (c1 : Nat), ArgNet w u n A cap es → IntsIn u u.heap.size A1 (natI (List.range (2 ^ es.length))) → Calls Try.prog 68 #[.slice A1 (natI (List.range (2 ^ es.length))).length c1, .func (.func 70) #[] #[.pointer (some ⟨w.heap.size, 0, none⟩)]] u (GotInts u (natI (basesN n es)))) := fun u A1 c1 h hi => by
      rw [HV.out]
      exact sieve_any 70 #[.pointer (some ⟨w.heap.size, 0, none⟩)] (fun x => leastV n es x) A1 c1 _ u hi hlen (fun _ _ => rfl) (fun v hv x _ => baseFn_any n x A cap es w v hl (h.on _ hv))
    rw [hn] at HN
    generalize natI (basesN n es) = ys at *
    generalize natI (List.range (2 ^ es.length)) = xs at *
    clear hes hn HV h9
    go_enter Try.func21, Try.ntmps21
    go_wp2_with fail
    refine (HN.out _ L0).mono ?_
    rintro e1 w1 ⟨rfl, hb1⟩
    have L1 := L0.step hb1 L0.lt
    clear c0 c1 s0
    obtain ⟨_, _, c0, c1, s0⟩ := id L1
    go_wp2_with fail
    refine (HA.out _).mono ?_
    rintro e2 w2 ⟨A2, k2, rfl, own2, hb2⟩
    have L2 := L1.step hb2 L1.lt
    clear c0 c1 s0
    go_wp2_with fail
    refine (HS.out _ _ _ L2 own2.ints).mono ?_
    rintro e3 w3 ⟨A3, k3, rfl, own3, hb3⟩
    have L3 := L2.step hb3 L2.lt
    have hz := L2.below.size
    go_wp2_with fail
    go_returns
    exact ⟨A3, k3, rfl, own3.more hz, L3.below⟩

set_option maxHeartbeats 4000000 in
theorem firstOk_any (n : Int) (s k : Nat) (A : Option Addr) (cap : Nat) (es : List (Int × Int)) (w : World) (hes : EdgesIn w w.heap.size A es) (hn : netOkB n es = true) (hs : s < 2 ^ es.length) (hk : k < es.length) :
    Calls Try.prog 77 #[.agg #[.int .i64 n, .slice A es.length cap], .int .i64 (s : Nat), .int .i64 (k : Nat)] w fun e w' => e = .returned (.bool (firstV es s k)) ∧ Below w.heap.size w w' := by
  have h9 := (netOkB_iff.1 hn).2.1
  have L0 := ArgNet.start (cap := cap) (n := n) 29 hes
  have hs5 : s < 512 := Nat.lt_of_lt_of_le hs (Nat.pow_le_pow_right (n := 2) (by omega) h9)
  have HB : Hid (∀ j, j < k → ∀ u, ArgNet w u n A cap es → Calls Try.prog 71 #[.agg #[.int .i64 n, .slice A es.length cap], .int .i64 ((s ^^^ 2 ^ k) ^^^ 2 ^ j : Nat)] u fun e w' => e = .returned (.bool (baseB (endsL es) (fun x => x) (flipT (flipT (bits (s : Nat)) k) j))) ∧ Below u.heap.size u w') := fun j hj u h => by
    have := baseOk_any n (((s ^^^ 2 ^ k) ^^^ 2 ^ j : Nat) : Int) A cap es u h.edges (by omega)
    rwa [firstV_step hn hs hk hj] at this
  have HX : Hid (∀ j, j < k → (s ^^^ 2 ^ k) ^^^ 2 ^ j < 512 ∧ s ^^^ 2 ^ k < 512 ∧ 2 ^ j < 512) := fun j hj => by
    have e : (2 : Nat) ^ 9 = 512 := rfl
    have h1 : s ^^^ 2 ^ k < 2 ^ 9 := xor_lt (by omega) (by omega)
    have h2 : (s ^^^ 2 ^ k) ^^^ 2 ^ j < 2 ^ 9 := xor_lt h1 (by omega)
    have h3 : 2 ^ j < 2 ^ 9 := Nat.pow_lt_pow_right (by omega) (by omega)
    omega
  have HNO : Hid (∀ j, j < k → baseB (endsL es) (fun x => x) (flipT (flipT (bits (s : Nat)) k) j) = true → firstV es s k = false) := fun j hj h => firstV_no hj h
  have HYE : Hid ((∀ j, j < k → baseB (endsL es) (fun x => x) (flipT (flipT (bits (s : Nat)) k) j) = false) → firstV es s k = true) := firstV_yes
  have hkmin : min k 64 = k := by omega
  have k8 : k ≤ 8 := by omega
  obtain ⟨P, hP, ⟨p1, p2⟩, hp3, hp4⟩ := pow_named8 k8
  rw [hP] at HB HX
  have hx1 : Go.bits .xor .i64 (s : Int) (P : Int) = ((s ^^^ P : Nat) : Int) := xor_small hs5 p2
  obtain ⟨r, hr⟩ : ∃ r, s ^^^ P = r := ⟨_, rfl⟩
  rw [hr] at HB HX hx1
  have HB' : Hid (∀ j, j < k → ∀ u, ArgNet w u n A cap es → Calls Try.prog 71 #[.agg #[.int .i64 n, .slice A es.length cap], .int .i64 (r ^^^ 2 ^ j : Nat)] u fun e w' => e = .returned (.bool (baseB (endsL es) (fun x => x) (flipT (flipT (bits (s : Nat)) k) j))) ∧ Below u.heap.size u w') := HB
  clear hP hes hr HB hs hn
  obtain ⟨_, _, c0, c1, s0⟩ := id L0
  go_enter Try.func77, Try.ntmps77
  go_wp2_with fail
  go_loopw [9] (fun t wr => ∃ j : Nat, j ≤ k ∧ t = .int .i64 (j : Nat) ∧ Hid (∀ i, i < j → baseB (endsL es) (fun x => x) (flipT (flipT (bits (s : Nat)) k) i) = false) ∧ ArgNet w wr n A cap es) (fun t _ => k - (intOf t).toNat)
  case atStart => exact ⟨0, by omega, rfl, fun i hi => by omega, L0⟩
  case round =>
    clear L0 c0 c1 s0
    obtain ⟨j, hj, rfl, HJ, L⟩ := hrel
    by_cases hlt : j < k
    · have HC := Lib.hid (HB'.out j hlt)
      have HNO' := Lib.hid (HNO.out j hlt)
      obtain ⟨b1, b2, b3⟩ := HX.out j hlt
      have j8 : j ≤ 8 := Nat.le_trans (Nat.le_of_lt hlt) k8
      have hjmin : min j 64 = j := Nat.min_eq_left (Nat.le_trans j8 (by decide))
      obtain ⟨P2, hP2, ⟨p21, p22⟩, hp23, hp24⟩ := pow_named8 j8
      rw [hP2] at HC b1 b3
      have hx2 : Go.bits .xor .i64 (r : Int) (P2 : Int) = ((r ^^^ P2 : Nat) : Int) := xor_small b2 p22
      generalize r ^^^ P2 = r2 at *
      clear hP2
      cases hv : baseB (endsL es) (fun x => x) (flipT (flipT (bits (s : Nat)) k) j) with
      | true =>
        have HN9 := Lib.hid (HNO'.out hv)
        rw [hv] at HC
        clear hv HNO' HJ
        obtain ⟨_, _, c0, c1, s0⟩ := id L
        go_wp2_with fail
        refine wp_region_class (fun u => ArgNet w u n A cap es) (by kernel_rfl) (by kernel_rfl) L.drew ?_
        clear L c0 c1 s0
        intro X hX f hf hex
        have k0 : ∀ x, (f x).cell? ⟨w.heap.size, 0, none⟩ = some (.int .i64 n) := fun x => (hf x).c0
        have k1 : ∀ x, (f x).cell? ⟨w.heap.size, 1, none⟩ = some (.slice A es.length cap) := fun x => (hf x).c1
        repeat (go_big_quiet_step (first | (go_at_call 71; with_reducible exact class_of hex (HC.out _ (hf _)) (hf _).on)))
        refine wpQuiet_nil ?_
        rintro _ ⟨x, rfl⟩
        have F := hf x
        clear k0 k1
        go_wp2_with fail
        go_returns
        exact ⟨retB HN9.out.symm, F.below⟩
      | false =>
        have HJ2 : Hid (∀ i, i < j + 1 → baseB (endsL es) (fun x => x) (flipT (flipT (bits (s : Nat)) k) i) = false) := fun i hi => by
          by_cases e : i = j
          · subst e; exact hv
          · exact HJ.out i (by omega)
        rw [hv] at HC
        clear hv HNO' HJ
        obtain ⟨_, _, c0, c1, s0⟩ := id L
        go_wp2_with fail
        refine wp_region_class (fun u => ArgNet w u n A cap es) (by kernel_rfl) (by kernel_rfl) L.drew ?_
        clear L c0 c1 s0
        intro X hX f hf hex
        have k0 : ∀ x, (f x).cell? ⟨w.heap.size, 0, none⟩ = some (.int .i64 n) := fun x => (hf x).c0
        have k1 : ∀ x, (f x).cell? ⟨w.heap.size, 1, none⟩ = some (.slice A es.length cap) := fun x => (hf x).c1
        repeat (go_big_quiet_step (first | (go_at_call 71; with_reducible exact class_of hex (HC.out _ (hf _)) (hf _).on)))
        refine wpQuiet_nil ?_
        rintro _ ⟨x, rfl⟩
        have F := hf x
        clear k0 k1
        go_wp2_with fail
        go_roundw
        case rel => exact ⟨j + 1, by omega, by go_num, HJ2, F⟩
        case measure => simp [intOf]; omega
    · obtain rfl : j = k := by omega
      have HY9 := Lib.hid (HYE.out HJ.out)
      clear HYE HJ
      go_wp2_with fail
      go_returns
      exact ⟨retB HY9.out.symm, L.below⟩

theorem firstFn_any (n : Int) (s k g : Nat) (A : Option Addr) (cap : Nat) (es : List (Int × Int)) (w u : World) (D : ArgNet w u n A cap es) (hc : u.cell? ⟨g, 0, none⟩ = some (.int .i64 (s : Nat))) (hn : netOkB n es = true) (hs : s < 2 ^ es.length) (hk : k < es.length) :
    Calls Try.prog 76 #[.int .i64 (k : Nat), .pointer (some ⟨w.heap.size, 0, none⟩), .pointer (some ⟨g, 0, none⟩)] u fun e w' => e = .returned (.bool (firstV es s k)) ∧ Below u.heap.size u w' := by
  have HC := Lib.hid (firstOk_any n s k A cap es u D.edges hn hs hk)
  obtain ⟨_, _, c0, c1, s0⟩ := id D
  generalize firstV es s k = v at *
  clear hn hs hk
  go_enter Try.func76, Try.ntmps76
  go_wp2_with fail
  refine HC.out.mono ?_
  rintro e1 w1 ⟨rfl, hb⟩
  go_wp2_with fail
  go_returns
  exact ⟨rfl, hb⟩

/-- The boxes of ActiveOf: the net and the state. -/
def StAt (w u : World) (n : Int) (A : Option Addr) (cap : Nat) (es : List (Int × Int)) (s : Int) : Prop := ArgNet w u n A cap es ∧ u.cell? ⟨w.heap.size + 1, 0, none⟩ = some (.int .i64 s) ∧ w.heap.size + 1 < u.heap.size
theorem StAt.on {w u : World} {n : Int} {A : Option Addr} {cap : Nat} {es : List (Int × Int)} {s : Int} (h : StAt w u n A cap es s) : ∀ u', Below u.heap.size u u' → StAt w u' n A cap es s := fun _ hb =>
  ⟨h.1.on _ hb, (hb.cell (p := ⟨w.heap.size + 1, 0, none⟩) h.2.2).trans h.2.1, Nat.lt_of_lt_of_le h.2.2 hb.size⟩
theorem StAt.drew {w u : World} {n : Int} {A : Option Addr} {cap : Nat} {es : List (Int × Int)} {s : Int} (h : StAt w u n A cap es s) : StAt w u.drew n A cap es s := h.on _ ((Below.refl _ _).drew)

set_option maxHeartbeats 4000000 in
theorem activeOf_any (n s : Int) (A : Option Addr) (cap : Nat) (es : List (Int × Int)) (w : World) (hes : EdgesIn w w.heap.size A es) (hl : es.length ≤ 1048576) :
    Calls Try.prog 27 #[.agg #[.int .i64 n, .slice A es.length cap], .int .i64 s] w fun e w' => e = .returned (.tuple #[.int .i64 (actIn n es s), .int .i64 (actOut n es s), .bool (leastV n es s)]) ∧ Below w.heap.size w w' := by
  have hmf : ∀ (fn : Fn) (first cap : Array Value) (w : World), (Instr.makeFunc fn first cap).run Try.prog w = .ok (.func fn first cap) w := fun _ _ _ _ => rfl
  have L0 := ArgNet.start (cap := cap) (n := n) 29 hes
  have hbx := (Below.refl (w.heap.size + 1) (w.alloc (.cells #[.int .i64 n, .slice A es.length cap] 29))).alloc (by simp) (.cells #[.int .i64 s] 3)
  have D0 : StAt w ((w.alloc (.cells #[.int .i64 n, .slice A es.length cap] 29)).alloc (.cells #[.int .i64 s] 3)) n A cap es s :=
    ⟨L0.step hbx (by omega), by rw [World.cell?_alloc_at _ _ _ _ (by simp)]; rfl, by simp⟩
  have HB : Hid (∀ u, StAt w u n A cap es s → Calls Try.prog 71 #[.agg #[.int .i64 n, .slice A es.length cap], .int .i64 s] u fun e w' => e = .returned (.bool (leastV n es s)) ∧ Below u.heap.size u w') := fun u h => baseOk_any n s A cap es u h.1.edges hl
  clear hbx L0 hes
  obtain ⟨⟨_, _, c0, c1, s0⟩, k0, k1⟩ := id D0
  cases hv : leastV n es s with
  | false =>
    have HI : Hid (actIn n es s = -1) := if_neg (by rw [hv]; simp)
    have HO : Hid (actOut n es s = -1) := if_neg (by rw [hv]; simp)
    rw [HI.out, HO.out]
    rw [hv] at HB
    clear hv
    go_enter Try.func27, Try.ntmps27
    go_wp2_with fail
    refine (HB.out _ D0).mono ?_
    rintro e1 w1 ⟨rfl, hb1⟩
    have D1 := D0.on _ hb1
    go_wp2_with fail
    go_returns
    exact ⟨by first | rfl | simp, D1.1.below⟩
  | true =>
    have hs : stateOkB n es s = true := by unfold leastV at hv; rw [Bool.and_eq_true] at hv; exact hv.1
    have hn := stateOkB_net hs
    have h9 := (netOkB_iff.1 hn).2.1
    obtain ⟨m, rfl, hm, hm5⟩ := state_nat hs
    have hf1 : setOf (firstV es m) es.length < 512 := setOf_le _ (m := 9) h9
    obtain ⟨hpi, hpo⟩ := act_pop h9 hm
    have HI : Hid (actIn n es (m : Nat) = (actI es m : Nat)) := by unfold Hid actIn; rw [if_pos hv, Int.toNat_natCast]
    have HO : Hid (actOut n es (m : Nat) = (actO es m : Nat)) := by unfold Hid actOut; rw [if_pos hv, Int.toNat_natCast]
    have HE : Hid (∀ u, StAt w u n A cap es (m : Nat) → Calls Try.prog 75 #[.agg #[.int .i64 n, .slice A es.length cap], .func (.func 76) #[] #[.pointer (some ⟨w.heap.size, 0, none⟩), .pointer (some ⟨w.heap.size + 1, 0, none⟩)]] u fun e w' => e = .returned (.int .i64 (setOf (firstV es m) es.length : Nat)) ∧ Below u.heap.size u w') := fun u h =>
      edgesWhere_any 76 #[.pointer (some ⟨w.heap.size, 0, none⟩), .pointer (some ⟨w.heap.size + 1, 0, none⟩)] _ n A cap es u h.1.edges h9 (fun _ _ => rfl) (fun v hv k hk => firstFn_any n m k _ A cap es w v (h.1.on _ hv) ((hv.cell (p := ⟨w.heap.size + 1, 0, none⟩) h.2.2).trans h.2.1) hn hm hk)
    rw [HI.out, HO.out]
    rw [hv] at HB
    generalize setOf (firstV es m) es.length = F at *
    have hx1 : Go.bits .and .i64 (F : Int) (m : Int) = ((F &&& m : Nat) : Int) := and_nat (by omega) (by omega)
    have hx2 : Go.bits .andNot .i64 (F : Int) (m : Int) = ((F - (F &&& m) : Nat) : Int) := andNot_nat m (by omega)
    have hle : F &&& m ≤ F := Nat.and_le_left
    have hu : ∀ z : Nat, z < 512 → IntKind.u64.wrap ((z : Nat) : Int) = (z : Nat) := fun z hz => by
      have h2 : ((z : Nat) : Int) < 512 := by omega
      show ((z : Nat) : Int) % 18446744073709551616 = _
      omega
    have hu1 := hu (F &&& m) (by omega)
    have hu2 := hu (F - (F &&& m)) (by omega)
    have HZ1 : Hid (∀ u, Calls Try.prog 78 #[.int .u64 (F &&& m : Nat)] u fun e w' => e = .returned (.int .i64 (actI es m : Nat)) ∧ u = w') := fun u => by rw [← hpi]; exact size_any _ u (by omega)
    have HZ2 : Hid (∀ u, Calls Try.prog 78 #[.int .u64 (F - (F &&& m) : Nat)] u fun e w' => e = .returned (.int .i64 (actO es m : Nat)) ∧ u = w') := fun u => by rw [← hpo]; exact size_any _ u (by omega)
    generalize actI es m = a at *
    generalize actO es m = b at *
    generalize F &&& m = F1 at *
    generalize F - F1 = F2 at *
    clear hv hs hn h9 hm hpi hpo HI HO hu
    go_enter Try.func27, Try.ntmps27
    go_wp2_with fail
    refine (HB.out _ D0).mono ?_
    rintro e1 w1 ⟨rfl, hb1⟩
    have D1 := D0.on _ hb1
    clear c0 c1 s0 k0 k1 D0 hb1
    obtain ⟨⟨_, _, c0, c1, s0⟩, k0, k1⟩ := id D1
    go_wp2_with fail
    refine (HE.out _ D1).mono ?_
    rintro e2 w2 ⟨rfl, hb2⟩
    have D2 := D1.on _ hb2
    clear c0 c1 s0 k0 k1 D1 hb2
    go_wp2_with fail
    refine wp_region_class (fun u => StAt w u n A cap es (m : Nat)) (by kernel_rfl) (by kernel_rfl) D2.drew ?_
    clear D2
    intro X hX f hf hex
    have k0 : ∀ x, (f x).cell? ⟨w.heap.size + 1, 0, none⟩ = some (.int .i64 (m : Nat)) := fun x => (hf x).2.1
    repeat (go_big_quiet_step (first | (go_at_call 78; with_reducible exact class_same (HZ1.out _)) | (go_at_call 78; with_reducible exact class_same (HZ2.out _))))
    refine wpQuiet_nil ?_
    rintro _ ⟨x, rfl⟩
    have FF := hf x
    go_wp2_with fail
    go_returns
    exact ⟨by first | rfl | simp, FF.1.below⟩
end Go.Proofs.Ytdacfeebidhgnaa
