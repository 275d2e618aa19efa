/- Chapter 11 of the program: what the roads have in common, and ByStates. -/
import Derived.Test.YtdacfeebidhgnaaSpec11d
import Derived.Test.YtdacfeebidhgnaaImpl2
import Derived.Test.YtdacfeebidhgnaaImpl10a
namespace Go.Proofs.Ytdacfeebidhgnaa
open Go.RowKit
set_option maxRecDepth 100000

theorem roadFn_any (x : Int) (w : World) :
    Calls Try.prog 124 #[.int .i64 x] w fun e w' => e = .returned (.bool (inFour x)) ∧ w = w' := by
  by_cases h1 : -4 ≤ x
  · by_cases h2 : x ≤ 4
    · have HV : Hid (inFour x = true) := inFour_iff.2 ⟨h1, h2⟩
      go_enter Try.func124, Try.ntmps124
      go_wp2_with fail
      go_returns
      exact ⟨by rw [HV.out]; first | rfl | simp, rfl⟩
    · have HV : Hid (inFour x = false) := by unfold Hid inFour; rw [decide_eq_false h2, Bool.and_false]
      go_enter Try.func124, Try.ntmps124
      go_wp2_with fail
      go_returns
      exact ⟨by rw [HV.out]; first | rfl | simp, rfl⟩
  · have HV : Hid (inFour x = false) := by unfold Hid inFour; rw [decide_eq_false h1, Bool.false_and]
    go_enter Try.func124, Try.ntmps124
    go_wp2_with fail
    go_returns
    exact ⟨by rw [HV.out]; first | rfl | simp, rfl⟩

set_option maxHeartbeats 2000000 in
theorem roadsOk_any (n x y : Int) (A : Option Addr) (cap : Nat) (es : List (Int × Int)) (w : World) (hes : EdgesIn w w.heap.size A es) (hl : es.length ≤ 1048576) :
    Calls Try.prog 81 #[.agg #[.int .i64 n, .slice A es.length cap], .int .i64 x, .int .i64 y] w fun e w' => e = .returned (.bool (roadOkB n es x y)) ∧ Below w.heap.size w w' := by
  have L0 := ArgNet.start (cap := cap) (n := n) 29 hes
  have HN : Hid (∀ u, ArgNet w u n A cap es → Calls Try.prog 37 #[.agg #[.int .i64 n, .slice A es.length cap]] u fun e w' => e = .returned (.bool (netOkB n es)) ∧ Below u.heap.size u w') := fun u h => netOk_any n A cap es u h.edges hl
  have HX : Hid (∀ u, Calls Try.prog 124 #[.int .i64 x] u fun e w' => e = .returned (.bool (inFour x)) ∧ u = w') := fun u => roadFn_any x u
  have HY : Hid (∀ u, Calls Try.prog 124 #[.int .i64 y] u fun e w' => e = .returned (.bool (inFour y)) ∧ u = w') := fun u => roadFn_any y u
  have HV : Hid (roadOkB n es x y = (netOkB n es && (inFour x && inFour y))) := rfl
  obtain ⟨_, _, c0, c1, s0⟩ := id L0
  generalize netOkB n es = v at *
  generalize inFour x = vx at *
  generalize inFour y = vy at *
  clear hes
  cases v with
  | false =>
    go_enter Try.func81, Try.ntmps81
    go_wp2_with fail
    refine (HN.out _ L0).mono ?_
    rintro e1 w1 ⟨rfl, hb1⟩
    have L1 := L0.on _ hb1
    go_wp2_with fail
    go_returns
    exact ⟨by rw [HV.out]; first | rfl | simp, L1.below⟩
  | true =>
    cases vx with
    | false =>
      go_enter Try.func81, Try.ntmps81
      go_wp2_with fail
      refine (HN.out _ L0).mono ?_
      rintro e1 w1 ⟨rfl, hb1⟩
      have L1 := L0.on _ hb1
      go_wp2_with fail
      refine (HX.out _).mono ?_
      rintro e2 w2 ⟨rfl, rfl⟩
      go_wp2_with fail
      go_returns
      exact ⟨by rw [HV.out]; first | rfl | simp, L1.below⟩
    | true =>
      go_enter Try.func81, Try.ntmps81
      go_wp2_with fail
      refine (HN.out _ L0).mono ?_
      rintro e1 w1 ⟨rfl, hb1⟩
      have L1 := L0.on _ hb1
      go_wp2_with fail
      refine (HX.out _).mono ?_
      rintro e2 w2 ⟨rfl, rfl⟩
      go_wp2_with fail
      refine (HY.out _).mono ?_
      rintro e3 w3 ⟨rfl, rfl⟩
      go_wp2_with fail
      go_returns
      exact ⟨by rw [HV.out]; first | rfl | (cases vy <;> rfl), L1.below⟩

theorem rankI_nat {n : Int} {es : List (Int × Int)} {s : Nat} (h : stateOkB n es (s : Nat) = true) : rankI n es (s : Nat) = (rkS es (s : Nat) : Nat) := by
  have h26 := (netOkB_iff.1 (stateOkB_net h)).1
  have h1 := rank_pieces h
  unfold rankI
  rw [if_pos h]; omega
theorem rankI_top {n : Int} {es : List (Int × Int)} (hn : netOkB n es = true) : rankI n es ((2 ^ es.length - 1 : Nat) : Int) = (rkN es : Nat) := by
  rw [rankI_nat (state_of hn (vall_lt _)), rank_all]
theorem rkN_small {n : Int} {es : List (Int × Int)} (hn : netOkB n es = true) : rkN es ≤ 5 := by
  have h26 := (netOkB_iff.1 hn).1
  have hA := rank_pieces (state_of hn (vall_lt es.length))
  rw [rank_all] at hA
  have hp := pieces_pos (state_of hn (vall_lt es.length))
  omega
/-- The exponents, told by ranks. -/
theorem val_rank {n : Int} {es : List (Int × Int)} (hn : netOkB n es = true) {s : Nat} (hs : s < 2 ^ es.length) :
    ∃ a b : Nat, rkN es = rkS es (s : Nat) + a ∧ pop s = rkS es (s : Nat) + b ∧ a ≤ rkN es ∧ b ≤ es.length ∧ pop s ≤ 9 ∧ rkN es ≤ 5 ∧ (∀ x y, valT n es x y s = (x - 1) ^ a * (y - 1) ^ b) := by
  have hS := state_of hn hs
  have h26 := (netOkB_iff.1 hn).1
  have h5 := rkN_small hn
  have hA := rank_pieces (state_of hn (vall_lt es.length))
  rw [rank_all] at hA
  have h1 := rank_pieces hS
  have hl := rank_le_all es ((s : Nat) : Int)
  have hc := pop_there hS
  rw [Int.toNat_natCast] at hc
  have hr : rkS es ((s : Nat) : Int) ≤ card (bits ((s : Nat) : Int)) es.length := by
    unfold rkS; rw [rankL_sel, ← rank_card]; exact rkA_len _ _
  have hcl := card_le (bits ((s : Nat) : Int)) es.length
  have h9 := (netOkB_iff.1 hn).2.1
  have e : allP n es = piecesB n es ((2 ^ es.length - 1 : Nat) : Int) := rfl
  refine ⟨rkN es - rkS es (s : Nat), pop s - rkS es (s : Nat), by omega, by omega, by omega, by omega, by omega, h5, fun x y => ?_⟩
  unfold valT
  rw [show piecesB n es (s : Nat) - allP n es = rkN es - rkS es (s : Nat) by omega, show pop s + piecesB n es (s : Nat) - n.toNat = pop s - rkS es (s : Nat) by omega]

/-- The boxes of ByStates: the net, a number, and two rows of powers. -/
def RoadAt (w u : World) (n : Int) (A : Option Addr) (cap : Nat) (es : List (Int × Int)) (g8 M g9 b9 d9 : Nat) (xs : List Int) (g10 b10 d10 : Nat) (ys : List Int) : Prop :=
  ArgNet w u n A cap es ∧ (u.cell? ⟨g8, 0, none⟩ = some (.int .i64 (M : Nat)) ∧ g8 < u.heap.size) ∧
  (u.cell? ⟨g9, 0, none⟩ = some (.slice (some ⟨b9, 0, none⟩) xs.length d9) ∧ IntsIn u u.heap.size (some ⟨b9, 0, none⟩) xs ∧ g9 < u.heap.size) ∧
  (u.cell? ⟨g10, 0, none⟩ = some (.slice (some ⟨b10, 0, none⟩) ys.length d10) ∧ IntsIn u u.heap.size (some ⟨b10, 0, none⟩) ys ∧ g10 < u.heap.size)
section
variable {w u : World} {n : Int} {A : Option Addr} {cap g8 M g9 b9 d9 g10 b10 d10 : Nat} {es : List (Int × Int)} {xs ys : List Int}
theorem RoadAt.on (h : RoadAt w u n A cap es g8 M g9 b9 d9 xs g10 b10 d10 ys) : ∀ u', Below u.heap.size u u' → RoadAt w u' n A cap es g8 M g9 b9 d9 xs g10 b10 d10 ys := fun _ hb =>
  ⟨h.1.on _ hb, ⟨(hb.cell (p := ⟨g8, 0, none⟩) h.2.1.2).trans h.2.1.1, Nat.lt_of_lt_of_le h.2.1.2 hb.size⟩,
    ⟨(hb.cell (p := ⟨g9, 0, none⟩) h.2.2.1.2.2).trans h.2.2.1.1, (h.2.2.1.2.1.below hb (Nat.le_refl _)).more hb.size, Nat.lt_of_lt_of_le h.2.2.1.2.2 hb.size⟩,
    ⟨(hb.cell (p := ⟨g10, 0, none⟩) h.2.2.2.2.2).trans h.2.2.2.1, (h.2.2.2.2.1.below hb (Nat.le_refl _)).more hb.size, Nat.lt_of_lt_of_le h.2.2.2.2.2 hb.size⟩⟩
end

set_option maxHeartbeats 4000000 in
theorem stateOne_any (n x y : Int) (A : Option Addr) (cap g8 g9 b9 d9 g10 b10 d10 : Nat) (es : List (Int × Int)) (s : Nat) (w u : World) (hn : netOkB n es = true) (hx : inFour x = true) (hy : inFour y = true) (hs : s < 2 ^ es.length)
    (D : RoadAt w u n A cap es g8 (rkN es) g9 b9 d9 (pwI (x - 1) (rkN es)) g10 b10 d10 (pwI (y - 1) es.length)) :
    Calls Try.prog 85 #[.int .i64 s, .pointer (some ⟨w.heap.size, 0, none⟩), .pointer (some ⟨g9, 0, none⟩), .pointer (some ⟨g8, 0, none⟩), .pointer (some ⟨g10, 0, none⟩)] u fun e w' => e = .returned (.int .i64 (valT n es x y s)) ∧ Below u.heap.size u w' := by
  have hS := state_of hn hs
  have h9 := (netOkB_iff.1 hn).2.1
  obtain ⟨a, b, e1, e2, ha, hb, ht9, hM5, hT0⟩ := val_rank hn hs
  have hT := valT_bound hn hx hy hs
  obtain ⟨wm1, wm2⟩ := mulT_wrap (hT0 x y) hT
  have HR : Hid (∀ v, ArgNet w v n A cap es → Calls Try.prog 54 #[.agg #[.int .i64 n, .slice A es.length cap], .int .i64 s] v fun e w' => e = .returned (.int .i64 (rkS es (s : Nat) : Nat)) ∧ Below v.heap.size v w') := fun v h => by
    rw [← rankI_nat hS]; exact rankOf_any n s A cap es v h.edges (by omega)
  have HT : Hid (∀ v, ArgNet w v n A cap es → Calls Try.prog 86 #[.agg #[.int .i64 n, .slice A es.length cap], .int .i64 s] v fun e w' => e = .returned (.int .i64 (pop s : Nat)) ∧ Below v.heap.size v w') := fun v h => by
    have := thereOf_any n s A cap es v h.edges (by omega)
    rwa [thereI_pop hS, Int.toNat_natCast] at this
  have HX : Hid (∀ v, RoadAt w v n A cap es g8 (rkN es) g9 b9 d9 (pwI (x - 1) (rkN es)) g10 b10 d10 (pwI (y - 1) es.length) → v.cell? ⟨b9, 0 + a, none⟩ = some (.int .i64 ((x - 1) ^ a))) := fun v h => (h.2.2.1.2.1.at' (pwI_get (x - 1) (rkN es) ha)).1
  have HY : Hid (∀ v, RoadAt w v n A cap es g8 (rkN es) g9 b9 d9 (pwI (x - 1) (rkN es)) g10 b10 d10 (pwI (y - 1) es.length) → v.cell? ⟨b10, 0 + b, none⟩ = some (.int .i64 ((y - 1) ^ b))) := fun v h => (h.2.2.2.2.1.at' (pwI_get (y - 1) es.length hb)).1
  have lx := pwI_length (x - 1) (rkN es)
  have ly := pwI_length (y - 1) es.length
  obtain ⟨xs, hxs⟩ : ∃ xs, pwI (x - 1) (rkN es) = xs := ⟨_, rfl⟩
  obtain ⟨ys, hys⟩ : ∃ ys, pwI (y - 1) es.length = ys := ⟨_, rfl⟩
  rw [hxs] at D HX HY lx
  rw [hys] at D HX HY ly
  clear hxs hys hT0 hT hS hn hx hy hs
  generalize valT n es x y s = T at *
  generalize (x - 1) ^ a = Y at *
  generalize (y - 1) ^ b = Z at *
  generalize rkN es = M at *
  generalize rkS es (s : Nat) = r at *
  generalize pop s = t at *
  have wa : IntKind.i64.wrap ((M : Int) - (r : Int)) = (a : Int) := by rw [IntWalk.i64_in _ (by omega)]; omega
  have wb : IntKind.i64.wrap ((t : Int) - (r : Int)) = (b : Int) := by rw [IntWalk.i64_in _ (by omega)]; omega
  have ia : (a : Int) < (xs.length : Int) := by omega
  have ib : (b : Int) < (ys.length : Int) := by omega
  clear e1 e2 lx ly
  obtain ⟨⟨_, _, c0, c1, s0⟩, _, _, _⟩ := id D
  go_enter Try.func85, Try.ntmps85
  go_wp2_with fail
  refine (HR.out _ D.1).mono ?_
  rintro e1 w1 ⟨rfl, hb1⟩
  have D1 := D.on _ hb1
  have hz1 := hb1
  clear c0 c1 s0 D hb1
  go_wp2_with fail
  have HT1 : Hid (∀ v, (RoadAt w v n A cap es g8 M g9 b9 d9 xs g10 b10 d10 ys ∧ Below u.heap.size u v) → _) := fun v h => HT.out v h.1.1
  refine wp_region_class (fun v => RoadAt w v n A cap es g8 M g9 b9 d9 xs g10 b10 d10 ys ∧ Below u.heap.size u v) (by kernel_rfl) (by kernel_rfl) ⟨D1.on _ ((Below.refl _ _).drew), hz1.drew⟩ ?_
  clear D1
  intro X hX f hf hex
  have c0 : ∀ x, (f x).cell? ⟨w.heap.size, 0, none⟩ = some (.int .i64 n) := fun x => (hf x).1.1.c0
  have c1 : ∀ x, (f x).cell? ⟨w.heap.size, 1, none⟩ = some (.slice A es.length cap) := fun x => (hf x).1.1.c1
  have c2 : ∀ x, (f x).cell? ⟨g8, 0, none⟩ = some (.int .i64 (M : Nat)) := fun x => (hf x).1.2.1.1
  have c3 : ∀ x, (f x).cell? ⟨g9, 0, none⟩ = some (.slice (some ⟨b9, 0, none⟩) xs.length d9) := fun x => (hf x).1.2.2.1.1
  have c4 : ∀ x, (f x).cell? ⟨g10, 0, none⟩ = some (.slice (some ⟨b10, 0, none⟩) ys.length d10) := fun x => (hf x).1.2.2.2.1
  have c5 : ∀ x, (f x).cell? ⟨b9, a, none⟩ = some (.int .i64 Y) := fun x => by have := HX.out _ (hf x).1; rwa [Nat.zero_add] at this
  have c6 : ∀ x, (f x).cell? ⟨b10, b, none⟩ = some (.int .i64 Z) := fun x => by have := HY.out _ (hf x).1; rwa [Nat.zero_add] at this
  have hon : ∀ x, ∀ v', Below (f x).heap.size (f x) v' → (RoadAt w v' n A cap es g8 M g9 b9 d9 xs g10 b10 d10 ys ∧ Below u.heap.size u v') := fun x v' hb => ⟨(hf x).1.on _ hb, (hf x).2.trans (hb.mono (hf x).2.size)⟩
  repeat (go_big_quiet_step (first | (go_at_call 86; with_reducible exact class_of hex (HT1.out _ (hf _)) (hon _))))
  refine wpQuiet_nil ?_
  rintro _ ⟨x9, rfl⟩
  have F := (hf x9).2
  go_wp2_with fail
  go_returns
  exact ⟨by first | rfl | simp, F⟩
end Go.Proofs.Ytdacfeebidhgnaa
