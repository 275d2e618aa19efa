/- Chapter 11 of the program: what the roads have in common, and ByStates. -/
import Derived.Test.YtdacfeebidhgnaaSpec11d
import Derived.Test.YtdacfeebidhgnaaImpl2
import Derived.Test.YtdacfeebidhgnaaImpl10a
namespace Go.Proofs.Ytdacfeebidhgnaa
open Go.RowKit
set_option maxRecDepth 100000

theorem roadFn_any (x : Int) (w : World) :
    Calls Try.prog 124 #[.int .i64 x] w fun e w' => e = .returned (.bool (inFour x)) ∧ w = w' := by
  by_cases h1 : -4 ≤ x
  · by_cases h2 : x ≤ 4
    · have HV : Hid (inFour x = true) := inFour_iff.2 ⟨h1, h2⟩
      go_enter Try.func124, Try.ntmps124
      go_wp2_with fail
      go_returns
      exact ⟨by rw [HV.out]; first | rfl | simp, rfl⟩
    · have HV : Hid (inFour x = false) := by unfold Hid inFour; rw [decide_eq_false h2, Bool.and_false]
      go_enter Try.func124, Try.ntmps124
      go_wp2_with fail
      go_returns
      exact ⟨by rw [HV.out]; first | rfl | simp, rfl⟩
  · have HV : Hid (inFour x = false) := by unfold Hid inFour; rw [decide_eq_false h1, Bool.false_and]
    go_enter Try.func124, Try.ntmps124
    go_wp2_with fail
    go_returns
    exact ⟨by rw [HV.out]; first | rfl | simp, rfl⟩

set_option maxHeartbeats 2000000 in
theorem roadsOk_any (n x y : Int) (A : Option Addr) (cap : Nat) (es : List (Int × Int)) (w : World) (hes : EdgesIn w w.heap.size A es) (hl : es.length ≤ 1048576) :
    Calls Try.prog 81 #[.agg #[.int .i64 n, .slice A es.length cap], .int .i64 x, .int .i64 y] w fun e w' => e = .returned (.bool (roadOkB n es x y)) ∧ Below w.heap.size w w' := by
  have L0 := ArgNet.start (cap := cap) (n := n) 29 hes
  have HN : Hid (∀ u, ArgNet w u n A cap es → Calls Try.prog 37 #[.agg #[.int .i64 n, .slice A es.length cap]] u fun e w' => e = .returned (.bool (netOkB n es)) ∧ Below u.heap.size u w') := fun u h => netOk_any n A cap es u h.edges hl
  have HX : Hid (∀ u, Calls Try.prog 124 #[.int .i64 x] u fun e w' => e = .returned (.bool (inFour x)) ∧ u = w') := fun u => roadFn_any x u
  have HY : Hid (∀ u, Calls Try.prog 124 #[.int .i64 y] u fun e w' => e = .returned (.bool (inFour y)) ∧ u = w') := fun u => roadFn_any y u
  have HV : Hid (roadOkB n es x y = (netOkB n es && (inFour x && inFour y))) := rfl
  obtain ⟨_, _, c0, c1, s0⟩ := id L0
  generalize netOkB n es = v at *
  generalize inFour x = vx at *
  generalize inFour y = vy at *
  clear hes
  cases v with
  | false =>
    go_enter Try.func81, Try.ntmps81
    go_wp2_with fail
    refine (HN.out _ L0).mono ?_
    rintro e1 w1 ⟨rfl, hb1⟩
    have L1 := L0.on _ hb1
    go_wp2_with fail
    go_returns
    exact ⟨by rw [HV.out]; first | rfl | simp, L1.below⟩
  | true =>
    cases vx with
    | false =>
      go_enter Try.func81, Try.ntmps81
      go_wp2_with fail
      refine (HN.out _ L0).mono ?_
      rintro e1 w1 ⟨rfl, hb1⟩
      have L1 := L0.on _ hb1
      go_wp2_with fail
      refine (HX.out _).mono ?_
      rintro e2 w2 ⟨rfl, rfl⟩
      go_wp2_with fail
      go_returns
      exact ⟨by rw [HV.out]; first | rfl | simp, L1.below⟩
    | true =>
      go_enter Try.func81, Try.ntmps81
      go_wp2_with fail
      refine (HN.out _ L0).mono ?_
      rintro e1 w1 ⟨rfl, hb1⟩
      have L1 := L0.on _ hb1
      go_wp2_with fail
      refine (HX.out _).mono ?_
      rintro e2 w2 ⟨rfl, rfl⟩
      go_wp2_with fail
      refine (HY.out _).mono ?_
      rintro e3 w3 ⟨rfl, rfl⟩
      go_wp2_with fail
      go_returns
      exact ⟨by rw [HV.out]; first | rfl | (cases vy <;> rfl), L1.below⟩

theorem rankI_nat {n : Int} {es : List (Int × Int)} {s : Nat} (h : stateOkB n es (s : Nat) = true) : rankI n es (s : Nat) = (rkS es (s : Nat) : Nat) := by
  have h26 := (netOkB_iff.1 (stateOkB_net h)).1
  have h1 := rank_pieces h
  unfold rankI
  rw [if_pos h]; omega
theorem rankI_top {n : Int} {es : List (Int × Int)} (hn : netOkB n es = true) : rankI n es ((2 ^ es.length - 1 : Nat) : Int) = (rkN es : Nat) := by
  rw [rankI_nat (state_of hn (vall_lt _)), rank_all]
theorem rkN_small {n : Int} {es : List (Int × Int)} (hn : netOkB n es = true) : rkN es ≤ 5 := by
  have h26 := (netOkB_iff.1 hn).1
  have hA := rank_pieces (state_of hn (vall_lt es.length))
  rw [rank_all] at hA
  have hp := pieces_pos (state_of hn (vall_lt es.length))
  omega
/-- The exponents, told by ranks. -/
theorem val_rank {n : Int} {es : List (Int × Int)} (hn : netOkB n es = true) {s : Nat} (hs : s < 2 ^ es.length) :
    ∃ a b : Nat, rkN es = rkS es (s : Nat) + a ∧ pop s = rkS es (s : Nat) + b ∧ a ≤ rkN es ∧ b ≤ es.length ∧ pop s ≤ 9 ∧ rkN es ≤ 5 ∧ (∀ x y, valT n es x y s = (x - 1) ^ a * (y - 1) ^ b) := by
  have hS := state_of hn hs
  have h26 := (netOkB_iff.1 hn).1
  have h5 := rkN_small hn
  have hA := rank_pieces (state_of hn (vall_lt es.length))
  rw [rank_all] at hA
  have h1 := rank_pieces hS
  have hl := rank_le_all es ((s : Nat) : Int)
  have hc := pop_there hS
  rw [Int.toNat_natCast] at hc
  have hr : rkS es ((s : Nat) : Int) ≤ card (bits ((s : Nat) : Int)) es.length := by
    unfold rkS; rw [rankL_sel, ← rank_card]; exact rkA_len _ _
  have hcl := card_le (bits ((s : Nat) : Int)) es.length
  have h9 := (netOkB_iff.1 hn).2.1
  have e : allP n es = piecesB n es ((2 ^ es.length - 1 : Nat) : Int) := rfl
  refine ⟨rkN es - rkS es (s : Nat), pop s - rkS es (s : Nat), by omega, by omega, by omega, by omega, by omega, h5, fun x y => ?_⟩
  unfold valT
  rw [show piecesB n es (s : Nat) - allP n es = rkN es - rkS es (s : Nat) by omega, show pop s + piecesB n es (s : Nat) - n.toNat = pop s - rkS es (s : Nat) by omega]

/-- The boxes of ByStates: the net, a number, and two rows of powers. -/
def RoadAt (w u : World) (n : Int) (A : Option Addr) (cap : Nat) (es : List (Int × Int)) (g8 M g9 b9 d9 : Nat) (xs : List Int) (g10 b10 d10 : Nat) (ys : List Int) : Prop :=
  ArgNet w u n A cap es ∧ (u.cell? ⟨g8, 0, none⟩ = some (.int .i64 (M : Nat)) ∧ g8 < u.heap.size) ∧
  (u.cell? ⟨g9, 0, none⟩ = some (.slice (some ⟨b9, 0, none⟩) xs.length d9) ∧ IntsIn u u.heap.size (some ⟨b9, 0, none⟩) xs ∧ g9 < u.heap.size) ∧
  (u.cell? ⟨g10, 0, none⟩ = some (.slice (some ⟨b10, 0, none⟩) ys.length d10) ∧ IntsIn u u.heap.size (some ⟨b10, 0, none⟩) ys ∧ g10 < u.heap.size)
section
variable {w u : World} {n : Int} {A : Option Addr} {cap g8 M g9 b9 d9 g10 b10 d10 : Nat} {es : List (Int × Int)} {xs ys : List Int}
theorem RoadAt.on (h : RoadAt w u n A cap es g8 M g9 b9 d9 xs g10 b10 d10 ys) : ∀ u', Below u.heap.size u u' → RoadAt w u' n A cap es g8 M g9 b9 d9 xs g10 b10 d10 ys := fun _ hb =>
  ⟨h.1.on _ hb, ⟨(hb.cell (p := ⟨g8, 0, none⟩) h.2.1.2).trans h.2.1.1, Nat.lt_of_lt_of_le h.2.1.2 hb.size⟩,
    ⟨(hb.cell (p := ⟨g9, 0, none⟩) h.2.2.1.2.2).trans h.2.2.1.1, (h.2.2.1.2.1.below hb (Nat.le_refl _)).more hb.size, Nat.lt_of_lt_of_le h.2.2.1.2.2 hb.size⟩,
    ⟨(hb.cell (p := ⟨g10, 0, none⟩) h.2.2.2.2.2).trans h.2.2.2.1, (h.2.2.2.2.1.below hb (Nat.le_refl _)).more hb.size, Nat.lt_of_lt_of_le h.2.2.2.2.2 hb.size⟩⟩
end

set_option maxHeartbeats 4000000 in
theorem stateOne_any (n x y : Int) (A : Option Addr) (cap g8 g9 b9 d9 g10 b10 d10 : Nat) (es : List (Int × Int)) (s : Nat) (w u : World) (hn : netOkB n es = true) (hx : inFour x = true) (hy : inFour y = true) (hs : s < 2 ^ es.length)
    (D : RoadAt w u n A cap es g8 (rkN es) g9 b9 d9 (pwI (x - 1) (rkN es)) g10 b10 d10 (pwI (y - 1) es.length)) :
    Calls Try.prog 85 #[.int .i64 s, .pointer (some ⟨w.heap.size, 0, none⟩), .pointer (some ⟨g9, 0, none⟩), .pointer (some ⟨g8, 0, none⟩), .pointer (some ⟨g10, 0, none⟩)] u fun e w' => e = .returned (.int .i64 (valT n es x y s)) ∧ Below u.heap.size u w' := by
  have hS := state_of hn hs
  have h9 := (netOkB_iff.1 hn).2.1
  obtain ⟨a, b, e1, e2, ha, hb, ht9, hM5, hT0⟩ := val_rank hn hs
  have hT := valT_bound hn hx hy hs
  obtain ⟨wm1, wm2⟩ := mulT_wrap (hT0 x y) hT
  have HR : Hid (∀ v, ArgNet w v n A cap es → Calls Try.prog 54 #[.agg #[.int .i64 n, .slice A es.length cap], .int .i64 s] v fun e w' => e = .returned (.int .i64 (rkS es (s : Nat) : Nat)) ∧ Below v.heap.size v w') := fun v h => by
    rw [← rankI_nat hS]; exact rankOf_any n s A cap es v h.edges (by omega)
  have HT : Hid (∀ v, ArgNet w v n A cap es → Calls Try.prog 86 #[.agg #[.int .i64 n, .slice A es.length cap], .int .i64 s] v fun e w' => e = .returned (.int .i64 (pop s : Nat)) ∧ Below v.heap.size v w') := fun v h => by
    have := thereOf_any n s A cap es v h.edges (by omega)
    rwa [thereI_pop hS, Int.toNat_natCast] at this
  have HX : Hid (∀ v, RoadAt w v n A cap es g8 (rkN es) g9 b9 d9 (pwI (x - 1) (rkN es)) g10 b10 d10 (pwI (y - 1) es.length) → v.cell? ⟨b9, 0 + a, none⟩ = some (.int .i64 ((x - 1) ^ a))) := fun v h => (h.2.2.1.2.1.at' (pwI_get (x - 1) (rkN es) ha)).1
  have HY : Hid (∀ v, RoadAt w v n A cap es g8 (rkN es) g9 b9 d9 (pwI (x - 1) (rkN es)) g10 b10 d10 (pwI (y - 1) es.length) → v.cell? ⟨b10, 0 + b, none⟩ = some (.int .i64 ((y - 1) ^ b))) := fun v h => (h.2.2.2.2.1.at' (pwI_get (y - 1) es.length hb)).1
  have lx := pwI_length (x - 1) (rkN es)
  have ly := pwI_length (y - 1) es.length
  obtain ⟨xs, hxs⟩ : ∃ xs, pwI (x - 1) (rkN es) = xs := ⟨_, rfl⟩
  obtain ⟨ys, hys⟩ : ∃ ys, pwI (y - 1) es.length = ys := ⟨_, rfl⟩
  rw [hxs] at D HX HY lx
  rw [hys] at D HX HY ly
  clear hxs hys hT0 hT hS hn hx hy hs
  generalize valT n es x y s = T at *
  generalize (x - 1) ^ a = Y at *
  generalize (y - 1) ^ b = Z at *
  generalize rkN es = M at *
  generalize rkS es (s : Nat) = r at *
  generalize pop s = t at *
  have wa : IntKind.i64.wrap ((M : Int) - (r : Int)) = (a : Int) := by rw [IntWalk.i64_in _ (by omega)]; omega
  have wb : IntKind.i64.wrap ((t : Int) - (r : Int)) = (b : Int) := by rw [IntWalk.i64_in _ (by omega)]; omega
  have ia : (a : Int) < (xs.length : Int) := by omega
  have ib : (b : Int) < (ys.length : Int) := by omega
  clear e1 e2 lx ly
  obtain ⟨⟨_, _, c0, c1, s0⟩, _, _, _⟩ := id D
  go_enter Try.func85, Try.ntmps85
  go_wp2_with fail
  refine (HR.out _ D.1).mono ?_
  rintro e1 w1 ⟨rfl, hb1⟩
  have D1 := D.on _ hb1
  have hz1 := hb1
  clear c0 c1 s0 D hb1
  go_wp2_with fail
  have HT1 : Hid (∀ v, (RoadAt w v n A cap es g8 M g9 b9 d9 xs g10 b10 d10 ys ∧ Below u.heap.size u v) → _) := fun v h => HT.out v h.1.1
  refine wp_region_class (fun v => RoadAt w v n A cap es g8 M g9 b9 d9 xs g10 b10 d10 ys ∧ Below u.heap.size u v) (by kernel_rfl) (by kernel_rfl) ⟨D1.on _ ((Below.refl _ _).drew), hz1.drew⟩ ?_
  clear D1
  intro X hX f hf hex
  have c0 : ∀ x, (f x).cell? ⟨w.heap.size, 0, none⟩ = some (.int .i64 n) := fun x => (hf x).1.1.c0
  have c1 : ∀ x, (f x).cell? ⟨w.heap.size, 1, none⟩ = some (.slice A es.length cap) := fun x => (hf x).1.1.c1
  have c2 : ∀ x, (f x).cell? ⟨g8, 0, none⟩ = some (.int .i64 (M : Nat)) := fun x => (hf x).1.2.1.1
  have c3 : ∀ x, (f x).cell? ⟨g9, 0, none⟩ = some (.slice (some ⟨b9, 0, none⟩) xs.length d9) := fun x => (hf x).1.2.2.1.1
  have c4 : ∀ x, (f x).cell? ⟨g10, 0, none⟩ = some (.slice (some ⟨b10, 0, none⟩) ys.length d10) := fun x => (hf x).1.2.2.2.1
  have c5 : ∀ x, (f x).cell? ⟨b9, a, none⟩ = some (.int .i64 Y) := fun x => by have := HX.out _ (hf x).1; rwa [Nat.zero_add] at this
  have c6 : ∀ x, (f x).cell? ⟨b10, b, none⟩ = some (.int .i64 Z) := fun x => by have := HY.out _ (hf x).1; rwa [Nat.zero_add] at this
  have hon : ∀ x, ∀ v', Below (f x).heap.size (f x) v' → (RoadAt w v' n A cap es g8 M g9 b9 d9 xs g10 b10 d10 ys ∧ Below u.heap.size u v') := fun x v' hb => ⟨(hf x).1.on _ hb, (hf x).2.trans (hb.mono (hf x).2.size)⟩
  repeat (go_big_quiet_step (first | (go_at_call 86; with_reducible exact class_of hex (HT1.out _ (hf _)) (hon _))))
  refine wpQuiet_nil ?_
  rintro _ ⟨x9, rfl⟩
  have F := (hf x9).2
  go_wp2_with fail
  go_returns
  exact ⟨by first | rfl | simp, F⟩
end Go.Proofs.Ytdacfeebidhgnaa

/- Chapter 11 of the program: ByStates. -/
namespace Go.Proofs.Ytdacfeebidhgnaa
open Go.RowKit
set_option maxRecDepth 100000

theorem argAlloc {w u : World} {n : Int} {A : Option Addr} {cap : Nat} {es : List (Int × Int)} (h : ArgNet w u n A cap es) (o : Obj) : ArgNet w (u.alloc o) n A cap es := h.on _ ((Below.refl u.heap.size u).alloc (Nat.le_refl _) o)
theorem argPut {w u : World} {n : Int} {A : Option Addr} {cap : Nat} {es : List (Int × Int)} (h : ArgNet w u n A cap es) {g : Nat} (hg : w.heap.size < g) (v : Value) : ArgNet w (u.setCell ⟨g, 0, none⟩ v) n A cap es :=
  h.step ((Below.refl (w.heap.size + 1) u).setCell (by simp; omega) v) (by omega)
/-- The net, and a number in a box. -/
def InR (w : World) (n : Int) (A : Option Addr) (cap : Nat) (es : List (Int × Int)) (g8 : Nat) (M : Nat) (X : World) : Prop :=
  X.cell? ⟨w.heap.size, 1, none⟩ = some (.slice A es.length cap) ∧ X.cell? ⟨g8, 0, none⟩ = some (.int .i64 (M : Nat)) ∧ ArgNet w X n A cap es ∧ w.heap.size < g8 ∧ g8 < X.heap.size
section
variable {w X u : World} {n : Int} {A : Option Addr} {cap : Nat} {es : List (Int × Int)} {g8 M : Nat}
theorem InR.call (h : InR w n A cap es g8 M X) (hb : Below X.heap.size X u) : InR w n A cap es g8 M u :=
  ⟨(h.2.2.1.on _ hb).c1, (hb.cell (p := ⟨g8, 0, none⟩) h.2.2.2.2).trans h.2.1, h.2.2.1.on _ hb, h.2.2.2.1, Nat.lt_of_lt_of_le h.2.2.2.2 hb.size⟩
theorem InR.alloc (h : InR w n A cap es g8 M X) (o : Obj) : InR w n A cap es g8 M (X.alloc o) := h.call ((Below.refl _ _).alloc (Nat.le_refl _) o)
theorem InR.drew (h : InR w n A cap es g8 M X) : InR w n A cap es g8 M X.drew := h.call ((Below.refl _ _).drew)
theorem InR.set (h : InR w n A cap es g8 M X) {g : Nat} (hg : g8 < g) (v : Value) : InR w n A cap es g8 M (X.setCell ⟨g, 0, none⟩ v) :=
  ⟨(argPut h.2.2.1 (by have := h.2.2.2.1; omega) v).c1, (World.cell?_setCell_far _ _ _ _ (by simp; omega)).trans h.2.1, argPut h.2.2.1 (by have := h.2.2.2.1; omega) v, h.2.2.2.1, by have := h.2.2.2.2; simp; omega⟩
theorem InR.new (D : ArgNet w u n A cap es) (ty : TypeId) : InR w n A cap es u.heap.size M (u.alloc (.cells #[.int .i64 (M : Nat)] ty)) :=
  ⟨(argAlloc D _).c1, by rw [World.cell?_alloc_at _ _ _ _ rfl]; rfl, argAlloc D _, D.lt, by simp⟩
theorem InR.put (D : ArgNet w u n A cap es) {v : Value} (hg : w.heap.size < g8) (hc : u.cell? ⟨g8, 0, none⟩ = some v) (hl : g8 < u.heap.size) : InR w n A cap es g8 M (u.setCell ⟨g8, 0, none⟩ (.int .i64 (M : Nat))) :=
  ⟨(argPut D hg _).c1, World.cell?_setCell_same' _ _ _ (by rw [hc]; rfl), argPut D hg _, hg, by simp; omega⟩
end
/-- Two rows in boxes of their own. -/
def TwoRows (wx : World) (g9 : Nat) (xs : List Int) (g10 : Nat) (ys : List Int) : Prop := ∃ b9 d9 b10 d10 : Nat,
  (wx.cell? ⟨g9, 0, none⟩ = some (.slice (some ⟨b9, 0, none⟩) xs.length d9) ∧ IntsIn wx wx.heap.size (some ⟨b9, 0, none⟩) xs ∧ g9 < wx.heap.size) ∧
  (wx.cell? ⟨g10, 0, none⟩ = some (.slice (some ⟨b10, 0, none⟩) ys.length d10) ∧ IntsIn wx wx.heap.size (some ⟨b10, 0, none⟩) ys ∧ g10 < wx.heap.size)

set_option maxHeartbeats 8000000 in
theorem byStates_any (n x y : Int) (A : Option Addr) (cap : Nat) (es : List (Int × Int)) (w : World) (hes : EdgesIn w w.heap.size A es) (hl : es.length ≤ 1048576) :
    Calls Try.prog 29 #[.agg #[.int .i64 n, .slice A es.length cap], .int .i64 x, .int .i64 y] w fun e w' => e = .returned (.tuple #[.int .i64 (valI n es x y), .bool (roadOkB n es x y)]) ∧ Below w.heap.size w w' := by
  have hmf : ∀ (fn : Fn) (first cap : Array Value) (w : World), (Instr.makeFunc fn first cap).run Try.prog w = .ok (.func fn first cap) w := fun _ _ _ _ => rfl
  have L0 := ArgNet.start (cap := cap) (n := n) 29 hes
  have HN : Hid (∀ u, ArgNet w u n A cap es → Calls Try.prog 81 #[.agg #[.int .i64 n, .slice A es.length cap], .int .i64 x, .int .i64 y] u fun e w' => e = .returned (.bool (roadOkB n es x y)) ∧ Below u.heap.size u w') := fun u h => roadsOk_any n x y A cap es u h.edges hl
  obtain ⟨_, _, c0, c1, s0⟩ := id L0
  cases hok : roadOkB n es x y with
  | false =>
    have HV := Lib.hid (road_not hok)
    rw [HV.out]
    rw [hok] at HN
    clear hes hok
    go_enter Try.func29, Try.ntmps29
    go_wp2_with fail
    refine (HN.out _ L0).mono ?_
    rintro e1 w1 ⟨rfl, hb1⟩
    have L1 := L0.on _ hb1
    go_wp2_with fail
    go_returns
    exact ⟨by first | rfl | simp, L1.below⟩
  | true =>
    obtain ⟨hn, hx, hy⟩ : netOkB n es = true ∧ inFour x = true ∧ inFour y = true := by
      unfold roadOkB at hok
      simp only [Bool.and_eq_true] at hok
      exact hok
    have h9 := (netOkB_iff.1 hn).2.1
    have hM5 := rkN_small hn
    obtain ⟨hx1, hx2⟩ := inFour_iff.1 hx
    obtain ⟨hy1, hy2⟩ := inFour_iff.1 hy
    have HV : Hid (valI n es x y = sumS (valT n es x y) (2 ^ es.length)) := by unfold Hid valI; rw [if_pos hok, val_states hn]
    have HSC : Hid (∀ u, ArgNet w u n A cap es → Calls Try.prog 82 #[.agg #[.int .i64 n, .slice A es.length cap]] u fun e w' => e = .returned (.int .i64 (2 ^ es.length : Nat)) ∧ Below u.heap.size u w') := fun u h => stateCount_any n A cap es u h9
    have HRK : Hid (∀ u, ArgNet w u n A cap es → Calls Try.prog 54 #[.agg #[.int .i64 n, .slice A es.length cap], .int .i64 (2 ^ es.length - 1 : Nat)] u fun e w' => e = .returned (.int .i64 (rkN es : Nat)) ∧ Below u.heap.size u w') := fun u h => by
      rw [← rankI_top hn]; exact rankOf_any n _ A cap es u h.edges hl
    have hP5 : 2 ^ es.length ≤ 512 := Nat.pow_le_pow_right (n := 2) (by decide) h9
    have HSUM : Hid (∀ (u : World) (g8 g9 b9 d9 g10 b10 d10 : Nat), RoadAt w u n A cap es g8 (rkN es) g9 b9 d9 (pwI (x - 1) (rkN es)) g10 b10 d10 (pwI (y - 1) es.length) → Calls Try.prog 84 #[.int .i64 (2 ^ es.length : Nat), .func (.func 85) #[] #[.pointer (some ⟨w.heap.size, 0, none⟩), .pointer (some ⟨g9, 0, none⟩), .pointer (some ⟨g8, 0, none⟩), .pointer (some ⟨g10, 0, none⟩)]] u fun e w' => e = .returned (.int .i64 (sumS (valT n es x y) (2 ^ es.length))) ∧ Below u.heap.size u w') := fun u g8 g9 b9 d9 g10 b10 d10 h =>
      sumOverG_any 85 #[.pointer (some ⟨w.heap.size, 0, none⟩), .pointer (some ⟨g9, 0, none⟩), .pointer (some ⟨g8, 0, none⟩), .pointer (some ⟨g10, 0, none⟩)] (valT n es x y) _ u hP5 (fun k hk => valT_bound hn hx hy hk) (fun _ _ => rfl) (fun v hv k hk => stateOne_any n x y A cap g8 g9 b9 d9 g10 b10 d10 es k w v hn hx hy hk (h.on _ hv))
    have HX : Hid (∀ u, Calls Try.prog 83 #[.int .i64 (x - 1), .int .i64 (rkN es : Nat)] u (GotInts u (pwI (x - 1) (rkN es)))) := fun u => powersF_any (x - 1) _ (by omega) (by omega) (by omega) u
    have HY : Hid (∀ u, Calls Try.prog 83 #[.int .i64 (y - 1), .int .i64 (es.length : Nat)] u (GotInts u (pwI (y - 1) es.length))) := fun u => powersF_any (y - 1) _ (by omega) (by omega) h9 u
    have lx := pwI_length (x - 1) (rkN es)
    have ly := pwI_length (y - 1) es.length
    have wx : IntKind.i64.wrap (x - 1) = x - 1 := IntWalk.i64_in _ (by omega)
    have wy : IntKind.i64.wrap (y - 1) = y - 1 := IntWalk.i64_in _ (by omega)
    obtain ⟨xs, hxs⟩ : ∃ xs, pwI (x - 1) (rkN es) = xs := ⟨_, rfl⟩
    obtain ⟨ys, hys⟩ : ∃ ys, pwI (y - 1) es.length = ys := ⟨_, rfl⟩
    rw [hxs] at HX HSUM lx
    rw [hys] at HY HSUM ly
    have hp1 : 1 ≤ 2 ^ es.length := Nat.one_le_two_pow
    obtain ⟨P, hP⟩ : ∃ P, 2 ^ es.length = P := ⟨_, rfl⟩
    obtain ⟨Q, hQ⟩ : ∃ Q, P - 1 = Q := ⟨_, rfl⟩
    rw [hP] at HSC HRK HSUM hP5 hp1 HV
    rw [hQ] at HRK
    have wq := wrap_pred hQ hp1 hP5
    have px : 0 < xs.length := by omega
    have py : 0 < ys.length := by omega
    rw [HV.out]
    rw [hok] at HN
    clear hes hok hn hx hy hx1 hx2 hy1 hy2 hxs hys hP hQ HV lx ly h9 hl hP5 hp1
    generalize sumS (valT n es x y) P = Z at *
    generalize rkN es = M at *
    go_enter Try.func29, Try.ntmps29
    go_wp2_with fail
    refine (HN.out _ L0).mono ?_
    rintro e1 w1 ⟨rfl, hb1⟩
    have D2 := L0.on _ hb1
    clear c0 c1 s0 L0 hb1 HN
    have c0 := D2.c0
    have c1 := D2.c1
    have s2 := D2.lt
    go_upto_region 3 with fail
    go_cut [8] (fun p wx => ∃ g : Nat, p = .pointer (some ⟨g, 0, none⟩) ∧ InR w n A cap es g M wx)
    case first =>
      have D_d := D2.drew
      have D_D := (argAlloc D2 (.cells #[.int .i64 0] 3)).drew
      have Z_D := cel_on ((Below.refl _ _).drew) (cel_new w1 (.int .i64 0) 3).1 (cel_new w1 (.int .i64 0) 3).2.1 (cel_new w1 (.int .i64 0) 3).2.2
      have n0 : w.heap.size ≠ w1.heap.size := by omega
      go_wp2_with fail
      go_region_held3 (fun w' => w'.cell? ⟨w.heap.size, 0, none⟩ = some (.int .i64 n) ∧ w'.cell? ⟨w.heap.size, 1, none⟩ = some (.slice A es.length cap)) (first | go_keep | exact ⟨D_a.c0, D_a.c1⟩ | exact ⟨D_b.c0, D_b.c1⟩ | exact ⟨(argPut D_b (by omega) _).c0, (argPut D_b (by omega) _).c1⟩) (first
        | (go_simp; go_at_call 54; (with_reducible refine (HRK.out _ D_a).mono ?_); rintro eb wb ⟨rfl, hbb⟩; have D_b := D_a.on _ hbb; have v0 := D_b.c0; have v1 := D_b.c1; have hwb := D_b.lt; have szb := hbb.size; (try have Z_b := cel_on hbb Z_a.1 Z_a.2.1 Z_a.2.2); (try have zb1 := Z_b.1); (try have zb2 := Z_b.2.1))
        | (go_simp; go_at_call 54; (with_reducible refine (HRK.out _ (argAlloc D_a (.cells #[.int .i64 0] 3))).mono ?_); rintro eb wb ⟨rfl, hbb⟩; have D_b := (argAlloc D_a (.cells #[.int .i64 0] 3)).on _ hbb; have v0 := D_b.c0; have v1 := D_b.c1; have hwb := D_b.lt; have szb := hbb.size; have Z_b := cel_one hbb; have zb1 := Z_b.1; have zb2 := Z_b.2.1)
        | (go_simp; go_at_call 82; (with_reducible refine (HSC.out _ D_d).mono ?_); rintro ea wa ⟨rfl, hba⟩; have D_a := D_d.on _ hba; have u0 := D_a.c0; have u1 := D_a.c1; have hwa := D_a.lt; have sza := hba.size)
        | (go_simp; go_at_call 82; (with_reducible refine (HSC.out _ D_D).mono ?_); rintro ea wa ⟨rfl, hba⟩; have D_a := D_D.on _ hba; have u0 := D_a.c0; have u1 := D_a.c1; have hwa := D_a.lt; have sza := hba.size; have Z_a := cel_on hba Z_D.1 Z_D.2.1 Z_D.2.2; have za1 := Z_a.1; have za2 := Z_a.2.1))
      all_goals
        go_wp2_with fail
        go_meet
        first
          | exact ⟨_, rfl, InR.new D_b _⟩
          | exact ⟨_, rfl, InR.put D_b (by omega) Z_b.1 Z_b.2.2⟩
    case rest =>
      clear D2 c0 c1 s2 HRK wq
      obtain ⟨g8, rfl, S0⟩ := hcut
      have c1 := S0.1
      have c8 := S0.2.1
      have l8 := S0.2.2.2.2
      have l0 := S0.2.2.2.1
      have S0d := S0.drew
      go_upto_region 4 with fail
      go_cut [9, 10] (fun p q wx => ∃ g9 g10 : Nat, p = .pointer (some ⟨g9, 0, none⟩) ∧ q = .pointer (some ⟨g10, 0, none⟩) ∧ InR w n A cap es g8 M wx ∧ TwoRows wx g9 xs g10 ys)
      case first =>
        go_wp2_with fail
        go_region_held3 (fun w' => w'.cell? ⟨w.heap.size, 1, none⟩ = some (.slice A es.length cap) ∧ w'.cell? ⟨g8, 0, none⟩ = some (.int .i64 (M : Nat)) ∧ ArgNet w w' n A cap es ∧ w.heap.size < g8 ∧ g8 < w'.heap.size) (first
          | exact S0d
          | exact S1
          | exact S2
          | (solve | (repeat' (first | assumption | refine InR.alloc ?_ _ | refine InR.drew ?_ | refine InR.set ?_ (by (try simp only [World.size_alloc, World.size_setCell, World.size_drew]); omega) _)))) (first
          | (go_simp; go_at_call 83; (with_reducible refine (HY.out _).mono ?_); rintro e2 w2 ⟨A2, c2, rfl, own2, hb2⟩; (try replace hb2 := undrew hb2); have S2 := InR.call (w := w) (n := n) (A := A) (cap := cap) (es := es) (g8 := g8) (M := M) (by (repeat' (first | assumption | refine InR.alloc ?_ _))) hb2; obtain ⟨b2, rfl, ge2, lt2⟩ := pow_row own2 (by omega); have sz2 := hb2.size; (try simp only [World.size_alloc] at ge2 sz2); (first | (have FF := cel_two hb2; obtain ⟨⟨q1, q2, q3⟩, q4, q5, q6⟩ := FF) | (have FF := cel_one hb2; obtain ⟨q1, q2, q3⟩ := FF; try (have FF := cel_past hb2 p1 p2 p3; obtain ⟨q4, q5, q6⟩ := FF)) | ((try (have FF := cel_on hb2 p1 p2 p3; obtain ⟨q1, q2, q3⟩ := FF)); (try (have FF := cel_on hb2 p4 p5 p6; obtain ⟨q4, q5, q6⟩ := FF)))))
          | (go_simp; go_at_call 83; (with_reducible refine (HX.out _).mono ?_); rintro e1 w3 ⟨A1, c3, rfl, own1, hb1⟩; (try replace hb1 := undrew hb1); have S1 := InR.call (w := w) (n := n) (A := A) (cap := cap) (es := es) (g8 := g8) (M := M) (by (repeat' (first | assumption | refine InR.alloc ?_ _))) hb1; obtain ⟨b1, rfl, ge1, lt1⟩ := pow_row own1 (by omega); have sz1 := hb1.size; (try simp only [World.size_alloc, World.size_drew] at ge1 sz1); (first | (have FF := cel_two hb1; obtain ⟨⟨p1, p2, p3⟩, p4, p5, p6⟩ := FF; (try simp only [World.size_alloc] at p1 p2 p3 p4 p5 p6)) | (have FF := cel_one hb1; obtain ⟨p1, p2, p3⟩ := FF; (try simp only [World.size_drew, World.size_alloc] at p1 p2 p3)) | skip)))
        all_goals
          rename_i hH
          go_wp2_with fail
          go_meet
          refine ⟨_, _, rfl, rfl, hH, b1, c3, b2, c2, ⟨?_, ?_, ?_⟩, ?_, ?_, ?_⟩
          · go_simp
          · refine (OwnI.held own1 ?_).ints
            repeat (first | rfl | refine (Below.heap_setCell _ _ _ _ (by first | omega | (simp; done) | (simp; omega))).trans ?_ | refine (alloc_block (by first | omega | (simp; done) | (simp; omega))).trans ?_ | refine (hb2.block _ (by first | omega | (simp; done) | (simp; omega))).trans ?_)
          · first | assumption | omega | (simp; done) | (simp; omega)
          · go_simp
          · refine (OwnI.held own2 ?_).ints
            repeat (first | rfl | refine (Below.heap_setCell _ _ _ _ (by first | omega | (simp; done) | (simp; omega))).trans ?_ | refine (alloc_block (by first | omega | (simp; done) | (simp; omega))).trans ?_)
          · first | assumption | omega | (simp; done) | (simp; omega)
      case rest =>
        clear S0 S0d c1 c8 l8
        obtain ⟨g9, g10, rfl, rfl, S9, b9, d9, b10, d10, R9, R10⟩ := hcut
        have D9 : RoadAt w _ n A cap es g8 M g9 b9 d9 xs g10 b10 d10 ys := ⟨S9.2.2.1, ⟨S9.2.1, S9.2.2.2.2⟩, R9, R10⟩
        clear S9 R9 R10 HX HY wx wy
        have c0 := D9.1.c0
        have c1 := D9.1.c1
        go_wp2_with fail
        refine (HSC.out _ D9.1).mono ?_
        rintro e4 w4 ⟨rfl, hb4⟩
        have D4 := D9.on _ hb4
        clear D9 hb4 c0 c1
        go_wp2_with fail
        refine (HSUM.out _ _ _ _ _ _ _ _ D4).mono ?_
        rintro e5 w5 ⟨rfl, hb5⟩
        have D5 := D4.on _ hb5
        go_wp2_with fail
        go_returns
        exact ⟨by first | rfl | simp, D5.1.below⟩
end Go.Proofs.Ytdacfeebidhgnaa
