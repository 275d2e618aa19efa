/- Boards of the program: BoardOk, TouchOk, DarkOk, LightOk. -/
import Derived.Test.YtcmomghlepmogaaDoorImpl7b
import Derived.Test.YtcmomghlepmogaaDoorImpl7c
import Derived.Test.YtcmomghlepmogaaDoorSpec7b
import Derived.Test.YtcmomghlepmogaaDoorSets
namespace Go.Proofs.YtcmomghlepmogaaDoor
open Go.RowKit
set_option maxRecDepth 100000

theorem boardOk_any (c r : Int) (w : World) : Calls Tryd.prog 51 #[.int .i64 c, .int .i64 r] w fun e w' => e = .returned (.bool (boardB c r)) ∧ Below w.heap.size w w' := by
  go_enter Tryd.func51, Tryd.ntmps51
  go_wp2_with fail
  all_goals go_returns
  all_goals exact ⟨retB (by first | (simp [boardB, *]; done) | (simp [boardB, *]; omega)), Below.refl _ _⟩
theorem boardStateOk_any (s c r : Int) (w : World) : Calls Tryd.prog 67 #[.int .i64 s, .int .i64 c, .int .i64 r] w fun e w' => e = .returned (.bool (stateB s c r)) ∧ Below w.heap.size w w' := by
  unfold stateB
  cases hB : boardB c r with
  | false =>
    have HB := Lib.hid hB
    clear hB
    go_enter Tryd.func67, Tryd.ntmps67
    go_wp2_with fail
    refine (boardOk_any _ _ _).mono ?_
    rintro e1 w1 ⟨rfl, hb1⟩
    rw [HB.out]
    go_wp2_with fail
    go_returns
    exact ⟨retB (by simp), hb1⟩
  | true =>
    have HB := Lib.hid hB
    obtain ⟨C, R, rfl, rfl, hc, hr⟩ := board_nat hB
    obtain ⟨n, hn, n1, n12, hnI, wn⟩ := prod_small hc hr
    obtain ⟨P, hP, p1, p2, hp3, hp4⟩ := pow_named12 (show n ≤ 13 by omega)
    rw [show ((C : Nat) : Int).toNat = C from rfl, show ((R : Nat) : Int).toNat = R from rfl, hn, hP]
    clear hB hn hnI hP
    have hi : inB s P = (decide (0 ≤ s) && decide (s < (P : Int))) := by
      unfold inB
      rw [Bool.eq_iff_iff]
      simp only [Bool.and_eq_true, decide_eq_true_eq]; omega
    rw [hi]
    clear hi
    go_enter Tryd.func67, Tryd.ntmps67
    go_wp2_with fail
    refine (boardOk_any _ _ _).mono ?_
    rintro e1 w1 ⟨rfl, hb1⟩
    rw [HB.out]
    go_wp2_with fail
    all_goals go_returns
    all_goals exact ⟨retB (by first | (simp [*]; done) | (simp [*]; omega)), hb1⟩

end Go.Proofs.YtcmomghlepmogaaDoor

/- Boards of the program: TouchOk, and what leads across. -/
namespace Go.Proofs.YtcmomghlepmogaaDoor
open Go.RowKit
set_option maxRecDepth 100000

theorem touch_lt : ∀ c, c < 5 → ∀ r, r < 4 → ∀ a, a < c * r → stepsN c r tSteps (a % c : Nat) (a / c : Nat) 6 < 2 ^ (c * r) := by decide +kernel
theorem touch_at {c r a b : Nat} (hc : c < 5) (hr : r < 4) (ha : a < c * r) (hb : b < c * r) : (stepsN c r tSteps (a % c : Nat) (a / c : Nat) 6).testBit b = touchN c a b := by
  have h12 : c * r ≤ 4 * 3 := Nat.mul_le_mul (by omega) (by omega)
  rw [(touch_mask c hc r hr a ha).2 b (by omega)]; simp [hb]

/-- The class of an area of the call's own, with the tables. -/
structure BoardAt (w u : World) (b0 c r : Nat) : Prop where
  area : AreaAt w u b0 c r
  laid : LaidT u
theorem BoardAt.on {w u : World} {b0 c r : Nat} (h : BoardAt w u b0 c r) : ∀ w', Below u.heap.size u w' → BoardAt w w' b0 c r := fun _ hb => ⟨h.area.step hb, h.laid.on hb⟩
theorem BoardAt.drew {w u : World} {b0 c r : Nat} (h : BoardAt w u b0 c r) : BoardAt w u.drew b0 c r := h.on _ ((Below.refl _ _).drew)

/-- What the next cells of a walk are told by: the area, the cells, one cell. -/
structure CellsAt (w u : World) (b0 b1 b2 c r K : Nat) (x y : Int) : Prop where
  a0 : u.cell? ⟨b0, 0, none⟩ = some (.int .i64 c)
  a1 : u.cell? ⟨b0, 1, none⟩ = some (.int .i64 r)
  k0 : u.cell? ⟨b1, 0, none⟩ = some (.int .u64 K)
  s0 : u.cell? ⟨b2, 0, none⟩ = some (.int .i64 x)
  s1 : u.cell? ⟨b2, 1, none⟩ = some (.int .i64 y)
  l0 : b0 < u.heap.size
  l1 : b1 < u.heap.size
  l2 : b2 < u.heap.size
  below : Below w.heap.size w u
  laid : LaidT u
theorem CellsAt.on {w u : World} {b0 b1 b2 c r K : Nat} {x y : Int} (h : CellsAt w u b0 b1 b2 c r K x y) : ∀ w', Below u.heap.size u w' → CellsAt w w' b0 b1 b2 c r K x y := fun _ hb =>
  ⟨(hb.cell h.l0).trans h.a0, (hb.cell h.l0).trans h.a1, (hb.cell h.l1).trans h.k0, (hb.cell h.l2).trans h.s0, (hb.cell h.l2).trans h.s1,
    Nat.lt_of_lt_of_le h.l0 hb.size, Nat.lt_of_lt_of_le h.l1 hb.size, Nat.lt_of_lt_of_le h.l2 hb.size, h.below.trans (hb.mono h.below.size), h.laid.on hb⟩
theorem CellsAt.drew {w u : World} {b0 b1 b2 c r K : Nat} {x y : Int} (h : CellsAt w u b0 b1 b2 c r K x y) : CellsAt w u.drew b0 b1 b2 c r K x y := h.on _ ((Below.refl _ _).drew)

set_option maxHeartbeats 2000000 in
theorem cellsNext_any (c r K b0 b1 : Nat) (x y : Int) (hc : 1 ≤ c ∧ c ≤ 4) (hr : 1 ≤ r ∧ r ≤ 3) (hx : 0 ≤ x ∧ x ≤ 12) (hy : 0 ≤ y ∧ y ≤ 12) (hK : K < 2 ^ 64) (w : World) (hL : LaidT w)
    (a0 : w.cell? ⟨b0, 0, none⟩ = some (.int .i64 c)) (a1 : w.cell? ⟨b0, 1, none⟩ = some (.int .i64 r)) (k0 : w.cell? ⟨b1, 0, none⟩ = some (.int .u64 K)) (l0 : b0 < w.heap.size) (l1 : b1 < w.heap.size) :
    Calls Tryd.prog 74 #[.agg #[.int .i64 x, .int .i64 y], .pointer (some ⟨b0, 0, none⟩), .pointer (some ⟨b1, 0, none⟩)] w fun e w' => e = .returned (.int .u64 (stepsN c r tSteps x y 6 &&& K : Nat)) ∧ Below w.heap.size w w' := by
  have B := (Below.refl w.heap.size w).alloc (by simp) (.cells #[.int .i64 x, .int .i64 y] 68)
  have D0 : CellsAt w (w.alloc (.cells #[.int .i64 x, .int .i64 y] 68)) b0 b1 w.heap.size c r K x y :=
    ⟨(B.cell l0).trans a0, (B.cell l0).trans a1, (B.cell l1).trans k0, by rw [World.cell?_alloc_at _ _ _ _ (by simp)]; rfl, by rw [World.cell?_alloc_at _ _ _ _ (by simp)]; rfl, by simp; omega, by simp; omega, by simp, B, hL.on B⟩
  have b1' : stepsN c r tSteps x y 6 < 2 ^ 16 := steps_lt hc.2 (by omega) _
  have HT : Hid (∀ u, LaidT u → Calls Tryd.prog 75 #[.agg #[.int .i64 c, .int .i64 r], .agg #[.int .i64 x, .int .i64 y]] u fun e w' => e = .returned (.int .u64 (stepsN c r tSteps x y 6 : Nat)) ∧ Below u.heap.size u w') := fun u hu => touching_any c r _ _ hc hr hx hy u hu
  generalize stepsN c r tSteps x y 6 = M at *
  have wa : Go.bits .and .u64 (M : Int) (K : Int) = ((M &&& K : Nat) : Int) := and_u (by omega) hK
  clear a0 a1 k0 B hL hx hy
  go_enter Tryd.func74, Tryd.ntmps74
  go_wp2_with fail
  refine wp_region_class (CellsAt w · b0 b1 w.heap.size c r K x y) (by kernel_rfl) (by kernel_rfl) D0.drew ?_
  intro X hX f hf hex
  have k0 : ∀ z, (f z).cell? ⟨b0, 0, none⟩ = some (.int .i64 c) := fun z => (hf z).a0
  have k1 : ∀ z, (f z).cell? ⟨b0, 1, none⟩ = some (.int .i64 r) := fun z => (hf z).a1
  have k2 : ∀ z, (f z).cell? ⟨b1, 0, none⟩ = some (.int .u64 K) := fun z => (hf z).k0
  have k3 : ∀ z, (f z).cell? ⟨w.heap.size, 0, none⟩ = some (.int .i64 x) := fun z => (hf z).s0
  have k4 : ∀ z, (f z).cell? ⟨w.heap.size, 1, none⟩ = some (.int .i64 y) := fun z => (hf z).s1
  repeat (go_big_quiet_step (first
    | (go_at_call 75; with_reducible exact class_of hex (HT.out _ (hf _).laid) (hf _).on)))
  refine wpQuiet_nil ?_
  rintro _ ⟨z, rfl⟩
  have DX := hf z
  go_wp2_with fail
  go_returns
  exact ⟨by first | rfl | simp [wa], DX.below⟩
end Go.Proofs.YtcmomghlepmogaaDoor

/- Boards of the program: DarkOk, LightOk, CountDark. -/
namespace Go.Proofs.YtcmomghlepmogaaDoor
open Go.RowKit
set_option maxRecDepth 100000

set_option maxHeartbeats 2000000 in
theorem cellsWalk_any (c r K F G : Nat) (hc : 1 ≤ c ∧ c ≤ 4) (hr : 1 ≤ r ∧ r ≤ 3) (hK : K < 2 ^ 64) (hF : F < 2 ^ (c * r)) (hG : G < 2 ^ 16) (w : World) (hL : LaidB w) :
    Calls Tryd.prog 68 #[.agg #[.int .i64 c, .int .i64 r], .int .u64 K, .int .u64 F, .int .u64 G] w fun e w' => ∃ D : Nat, Walk7 (fun a b => (stepsN c r tSteps (a % c : Nat) (a / c : Nat) 6 &&& K).testBit b) (c * r) (F &&& K) D 0 ∧ e = .returned (.bool (!(D &&& G == 0))) ∧ Below w.heap.size w w' := by
  have hmf : ∀ (fn : Fn) (first cap : Array Value) (w : World), (Instr.makeFunc fn first cap).run Tryd.prog w = .ok (.func fn first cap) w := fun _ _ _ _ => rfl
  have h12 : c * r ≤ 12 := Nat.mul_le_mul hc.2 hr.2
  have hp : 2 ^ (c * r) ≤ 2 ^ 12 := Nat.pow_le_pow_right (by omega) h12
  have wa : Go.bits .and .u64 (F : Int) (K : Int) = ((F &&& K : Nat) : Int) := and_u (by omega) hK
  have hFK : F &&& K < 2 ^ (c * r) := Nat.lt_of_le_of_lt Nat.and_le_left hF
  have B2 : Below w.heap.size w ((w.alloc (.cells #[.int .i64 c, .int .i64 r] 42)).alloc (.cells #[.int .u64 K] 46)) := ((Below.refl _ _).alloc (by simp) _).alloc (by simp) _
  obtain ⟨u, hu⟩ : ∃ u, u = (w.alloc (.cells #[.int .i64 c, .int .i64 r] 42)).alloc (.cells #[.int .u64 K] 46) := ⟨_, rfl⟩
  have a0 : u.cell? ⟨w.heap.size, 0, none⟩ = some (.int .i64 c) := by rw [hu, World.cell?_alloc_past _ _ _ (by simp), World.cell?_alloc_at _ _ _ _ (by simp)]; rfl
  have a1 : u.cell? ⟨w.heap.size, 1, none⟩ = some (.int .i64 r) := by rw [hu, World.cell?_alloc_past _ _ _ (by simp), World.cell?_alloc_at _ _ _ _ (by simp)]; rfl
  have k0 : u.cell? ⟨w.heap.size + 1, 0, none⟩ = some (.int .u64 K) := by rw [hu, World.cell?_alloc_at _ _ _ _ (by simp)]; rfl
  have l0 : w.heap.size < u.heap.size := by rw [hu]; simp; omega
  have l1 : w.heap.size + 1 < u.heap.size := by rw [hu]; simp
  rw [← hu] at B2
  have hLu := hL.on B2
  have HC : Hid (Calls Tryd.prog 57 #[.agg #[.int .i64 c, .int .i64 r], .int .u64 (F &&& K : Nat), .int .u64 G, .func (.func 74) #[] #[.pointer (some ⟨w.heap.size, 0, none⟩), .pointer (some ⟨w.heap.size + 1, 0, none⟩)]] u fun e w' => ∃ D : Nat, Walk7 (fun a b => (stepsN c r tSteps (a % c : Nat) (a / c : Nat) 6 &&& K).testBit b) (c * r) (F &&& K) D 0 ∧ e = .returned (.bool (!(D &&& G == 0))) ∧ Below u.heap.size u w') :=
    leadsCells_any c r (c * r) (F &&& K) G (fun a => stepsN c r tSteps (a % c : Nat) (a / c : Nat) 6 &&& K) _ _ u hLu.z hc h12 hFK hG
      (fun i hi => Nat.lt_of_le_of_lt Nat.and_le_left (touch_lt c (by omega) r (by omega) i hi))
      (fun v hv i hi => by
        have hm : i % c ≤ i := Nat.mod_le _ _
        have hd : i / c ≤ i := Nat.div_le_self _ _
        exact cellsNext_any c r K _ _ _ _ hc hr ⟨Int.natCast_nonneg _, by omega⟩ ⟨Int.natCast_nonneg _, by omega⟩ hK v (hLu.t.on hv) ((hv.cell l0).trans a0) ((hv.cell l0).trans a1) ((hv.cell l1).trans k0) (Nat.lt_of_lt_of_le l0 hv.size) (Nat.lt_of_lt_of_le l1 hv.size))
  generalize (fun a b => (stepsN c r tSteps (a % c : Nat) (a / c : Nat) 6 &&& K).testBit b) = T at *
  generalize F &&& K = FK at *
  generalize c * r = n at *
  have HB := Lib.hid B2
  have HL2 := Lib.hid hLu
  subst hu
  clear B2 hLu hL l0 l1 hp hF h12 hFK
  go_enter Tryd.func68, Tryd.ntmps68
  go_wp2_with fail
  refine HC.out.mono ?_
  rintro e1 w1 ⟨D, hW, rfl, hb1⟩
  go_wp2_with fail
  go_returns
  exact ⟨D, hW, rfl, HB.out.trans (hb1.mono HB.out.size)⟩

theorem cellsDark_any (c r S : Nat) (hc : 1 ≤ c ∧ c ≤ 4) (hr : 1 ≤ r ∧ r ≤ 3) (hS : S < 2 ^ (c * r)) (w : World) (hL : LaidB w) :
    Calls Tryd.prog 68 #[.agg #[.int .i64 c, .int .i64 r], .int .u64 S, .int .u64 (colL c r : Nat), .int .u64 (colR c r : Nat)] w fun e w' => e = .returned (.bool (darkN c r S)) ∧ Below w.heap.size w w' := by
  have h12 : c * r ≤ 12 := Nat.mul_le_mul hc.2 hr.2
  have hp : 2 ^ (c * r) ≤ 2 ^ 12 := Nat.pow_le_pow_right (by omega) h12
  have hs : ∀ c, c < 5 → ∀ r, r < 4 → 1 ≤ c → colL c r < 2 ^ (c * r) ∧ colR c r < 2 ^ 16 := by decide +kernel
  obtain ⟨s1, s2⟩ := hs c (by omega) r (by omega) hc.1
  refine (cellsWalk_any c r S _ _ hc hr (by omega) s1 s2 w hL).mono ?_
  rintro e w' ⟨D, hW, rfl, hb⟩
  refine ⟨retB (dark_is hc hr hS (hW.reach (fun a b ha hb => ?_) (fun i => ?_) hS)), hb⟩
  · show (_ &&& S).testBit b = _
    rw [Nat.testBit_and, touch_at (by omega) (by omega) ha hb]
  · rw [Nat.testBit_and, Bool.and_comm]
theorem cellsLight_any (c r S : Nat) (hc : 1 ≤ c ∧ c ≤ 4) (hr : 1 ≤ r ∧ r ≤ 3) (hS : S < 2 ^ (c * r)) (w : World) (hL : LaidB w) :
    Calls Tryd.prog 68 #[.agg #[.int .i64 c, .int .i64 r], .int .u64 (notU S : Nat), .int .u64 (rowLow c : Nat), .int .u64 (rowHigh c r : Nat)] w fun e w' => e = .returned (.bool (lightN c r S)) ∧ Below w.heap.size w w' := by
  have h12 : c * r ≤ 12 := Nat.mul_le_mul hc.2 hr.2
  have hp : 2 ^ (c * r) ≤ 2 ^ 12 := Nat.pow_le_pow_right (by omega) h12
  have hp1 := Nat.one_le_two_pow (n := c * r)
  have hs : ∀ c, c < 5 → ∀ r, r < 4 → 1 ≤ c → 1 ≤ r → rowLow c < 2 ^ (c * r) ∧ rowHigh c r < 2 ^ 16 := by decide +kernel
  obtain ⟨s1, s2⟩ := hs c (by omega) r (by omega) hc.1 hr.1
  have hnot : ∀ i, i < c * r → (notU S).testBit i = (2 ^ (c * r) - 1 - S).testBit i := fun i hi => by
    rw [notU_bit hS (by omega) hi, show 2 ^ (c * r) - 1 - S = 2 ^ (c * r) - (S + 1) by omega, Nat.testBit_two_pow_sub_succ hS]
    simp [hi]
  refine (cellsWalk_any c r (notU S) _ _ hc hr (notU_lt S) s1 s2 w hL).mono ?_
  rintro e w' ⟨D, hW, rfl, hb⟩
  refine ⟨retB (light_is hc hr hS (hW.reach (fun a b ha hb => ?_) (fun i => ?_) (by omega))), hb⟩
  · show (_ &&& notU S).testBit b = _
    rw [Nat.testBit_and, touch_at (by omega) (by omega) ha hb, hnot b hb]
  · rw [Nat.testBit_and]
    by_cases hi : i < c * r
    · rw [hnot i hi, Bool.and_comm]
    · rw [Nat.testBit_lt_two_pow (Nat.lt_of_lt_of_le s1 (Nat.pow_le_pow_right (by omega) (by omega)))]; simp

theorem not_key : ∀ S : Nat, S < 4096 → Go.bits .xor .u64 (if IntKind.u64.signed = true then -1 else IntKind.u64.max) (S : Int) = ((notU S : Nat) : Int) := by decide +kernel
/-- The class of an area of the call's own, with all tables. -/
structure BoardAt2 (w u : World) (b0 c r : Nat) : Prop where
  area : AreaAt w u b0 c r
  laid : LaidB u
theorem BoardAt2.on {w u : World} {b0 c r : Nat} (h : BoardAt2 w u b0 c r) : ∀ w', Below u.heap.size u w' → BoardAt2 w w' b0 c r := fun _ hb => ⟨h.area.step hb, h.laid.on hb⟩
theorem BoardAt2.drew {w u : World} {b0 c r : Nat} (h : BoardAt2 w u b0 c r) : BoardAt2 w u.drew b0 c r := h.on _ ((Below.refl _ _).drew)

set_option maxHeartbeats 2000000 in
theorem darkOk_any (s c r : Int) (w : World) (hL : LaidB w) : Calls Tryd.prog 53 #[.int .i64 s, .int .i64 c, .int .i64 r] w fun e w' => e = .returned (.bool (darkI s c r)) ∧ Below w.heap.size w w' := by
  unfold darkI
  cases hS : stateB s c r with
  | false =>
    have HS := Lib.hid hS
    clear hS
    go_enter Tryd.func53, Tryd.ntmps53
    go_wp2_with fail
    refine (boardStateOk_any _ _ _ _).mono ?_
    rintro e1 w1 ⟨rfl, hb1⟩
    rw [HS.out]
    go_wp2_with fail
    go_returns
    exact ⟨rfl, hb1⟩
  | true =>
    have HS := Lib.hid hS
    unfold stateB at hS
    rw [Bool.and_eq_true] at hS
    obtain ⟨h1, h2⟩ := hS
    obtain ⟨C, R, rfl, rfl, hc, hr⟩ := board_nat h1
    rw [show ((C : Nat) : Int).toNat = C from rfl, show ((R : Nat) : Int).toNat = R from rfl] at *
    obtain ⟨S, rfl, hSS⟩ := inB_nat h2
    rw [show ((S : Nat) : Int).toNat = S from rfl]
    have h12 : C * R ≤ 12 := Nat.mul_le_mul hc.2 hr.2
    have hp : 2 ^ (C * R) ≤ 2 ^ 12 := Nat.pow_le_pow_right (by omega) h12
    have wu : IntKind.u64.wrap (S : Int) = (S : Int) := IntWalk.u64_in _ (by omega)
    have w1' : IntKind.i64.wrap ((C : Int) - 1) = (C : Int) - 1 := IntWalk.i64_in _ (by omega)
    have w2' : IntKind.i64.wrap ((R : Int) - 1) = (R : Int) - 1 := IntWalk.i64_in _ (by omega)
    have wn := not_key S (by omega)
    have HX : Hid (∀ u, LaidB u → Calls Tryd.prog 68 #[.agg #[.int .i64 C, .int .i64 R], .int .u64 S, .int .u64 (colL C R : Nat), .int .u64 (colR C R : Nat)] u fun e w' => e = .returned (.bool (darkN C R S)) ∧ Below u.heap.size u w') := fun u hu => cellsDark_any C R S hc hr hSS u hu
    have sides := col_sides C (by omega) R (by omega) hc.1
    have H0 : Hid (∀ u, Calls Tryd.prog 35 #[.agg #[.int .i64 C, .int .i64 R], .int .i64 0] u fun e w' => e = .returned (.int .u64 (colL C R : Nat)) ∧ Below u.heap.size u w') := fun u => by
      rw [← sides.1]; exact columnSet_any C R 0 (by omega) (by omega) u
    have H1 : Hid (∀ u, Calls Tryd.prog 35 #[.agg #[.int .i64 C, .int .i64 R], .int .i64 ((C : Int) - 1)] u fun e w' => e = .returned (.int .u64 (colR C R : Nat)) ∧ Below u.heap.size u w') := fun u => by
      rw [show colR C R = colR C R from rfl, ← sides.2]; exact columnSet_any C R _ (by omega) (by omega) u
    clear h1 h2 sides hp hSS h12
    generalize colL C R = X0 at *
    generalize colR C R = X1 at *
    generalize darkN C R S = v at *
    generalize notU S = nS at *
    generalize hl1 : (C : Int) - 1 = l1 at *
    go_enter Tryd.func53, Tryd.ntmps53
    go_wp2_with fail
    refine (boardStateOk_any _ _ _ _).mono ?_
    rintro e1 w1 ⟨rfl, hb1⟩
    rw [HS.out]
    have D0 : BoardAt2 w1 (w1.alloc (.cells #[.int .i64 C, .int .i64 R] 42)) w1.heap.size C R := ⟨AreaAt.start w1 C R _, (hL.on hb1).on ((Below.refl _ _).alloc (by simp) _)⟩
    go_wp2_with fail
    refine wp_region_class (BoardAt2 w1 · w1.heap.size C R) (by kernel_rfl) (by kernel_rfl) D0.drew ?_
    intro X hX f hf hex
    have k0 : ∀ z, (f z).cell? ⟨w1.heap.size, 0, none⟩ = some (.int .i64 C) := fun z => (hf z).area.a0
    have k1 : ∀ z, (f z).cell? ⟨w1.heap.size, 1, none⟩ = some (.int .i64 R) := fun z => (hf z).area.a1
    repeat (go_big_quiet_step (first
      | (go_at_call 35; with_reducible exact class_of hex (H0.out _) (hf _).on)
      | (go_at_call 35; with_reducible exact class_of hex (H1.out _) (hf _).on)
      | (go_at_call 68; with_reducible exact class_of hex (HX.out _ (hf _).laid) (hf _).on)))
    refine wpQuiet_nil ?_
    rintro _ ⟨z, rfl⟩
    have DX := hf z
    go_wp2_with fail
    go_returns
    exact ⟨retB (by simp), hb1.trans (DX.area.below.mono hb1.size)⟩

set_option maxHeartbeats 2000000 in
theorem sumDark_any (g0 m : Nat) (f : Nat → Nat) (u : World) (hm : m ≤ 13) (hf : ∀ k, f k ≤ 8192)
    (HK : ∀ v, Below u.heap.size u v → ∀ k : Nat, k < m → Calls Tryd.prog 55 #[.int .i64 k, .pointer (some ⟨g0, 0, none⟩)] v fun e w' => e = .returned (.int .i64 (f k : Nat)) ∧ Below v.heap.size v w') :
    Calls Tryd.prog 54 #[.int .i64 m, .func (.func 55) #[] #[.pointer (some ⟨g0, 0, none⟩)]] u fun e w' => e = .returned (.int .i64 (sumN f m : Nat)) ∧ Below u.heap.size u w' := by
  have hsum : ∀ k, sumN f k ≤ k * 8192 := fun k => by
    induction k with
    | zero => simp [sumN]
    | succ k ih => have := hf k; rw [sumN, Nat.succ_mul]; omega
  have HSM := Lib.hid hsum
  have HF := Lib.hid hf
  have HC := Lib.hid HK
  clear hf HK hsum
  go_enter Tryd.func54, Tryd.ntmps54
  go_wp2_with fail
  go_loopw [5, 6, 8] (fun v _ t wr => ∃ k : Nat, k ≤ m ∧ t = .int .i64 (k : Nat) ∧ v = .int .i64 (sumN f k : Nat) ∧ Below u.heap.size u wr) (fun _ _ t _ => m - (intOf t).toNat)
  case atStart => exact ⟨0, by omega, rfl, rfl, Below.refl _ _⟩
  case round =>
    obtain ⟨k, hk, rfl, rfl, hb⟩ := hrel
    by_cases hlt : k < m
    · have z1 := HSM.out k
      have z2 := HF.out k
      have HS : Hid (sumN f (k + 1) = sumN f k + f k) := rfl
      have hcall := HC.out _ hb k hlt
      obtain ⟨x, hx⟩ : ∃ x, sumN f (k + 1) = x := ⟨_, rfl⟩
      rw [hx] at HS
      have HX := Lib.hid hx
      clear hx
      generalize sumN f k = y at *
      generalize f k = z at *
      have wz : IntKind.i64.wrap ((y : Int) + (z : Int)) = (x : Int) := by rw [IntWalk.i64_in _ (by omega), HS.out]; omega
      clear z1 z2
      go_wp2_with fail
      refine hcall.mono ?_
      clear hcall
      rintro e1 w1 ⟨rfl, hb1⟩
      have hb2 := hb.trans (hb1.mono hb.size)
      go_wp2_with fail
      go_roundw
      case rel => exact ⟨k + 1, by omega, by go_num, by rw [HX.out], hb2⟩
      case measure => simp [intOf]; omega
    · obtain rfl : k = m := by omega
      go_wp2_with fail
      go_returns
      exact ⟨rfl, hb⟩
theorem sum_cnt (q : Nat → Bool) (m : Nat) : ∀ s, (∀ t, t < s → pop t < m) → sumN (fun k => cntS q s k) m = cntB q s
  | 0, _ => by
    have : ∀ m, sumN (fun k => cntS q 0 k) m = 0 := fun m => by
      induction m with
      | zero => rfl
      | succ m ih => rw [sumN, ih]; rfl
    rw [this]; rfl
  | s + 1, h => by
    have ih := sum_cnt q m s (fun t ht => h t (by omega))
    have hp := h s (by omega)
    have h1 : sumN (fun k => cntS q (s + 1) k) m = sumN (fun k => cntS q s k + if q s = true ∧ pop s = k then 1 else 0) m := sumN_congr m fun k _ => cntS_succ q s k
    have h2 : ∀ m, sumN (fun k => if q s = true ∧ pop s = k then 1 else 0) m = if q s = true ∧ pop s < m then 1 else 0 := fun m => by
      induction m with
      | zero => rw [if_neg (by omega)]; rfl
      | succ m ih =>
        rw [sumN, ih]
        by_cases hq : q s = true
        · simp only [hq, true_and]
          by_cases h3 : pop s < m
          · rw [if_pos h3, if_neg (by omega), if_pos (by omega)]
          · by_cases h4 : pop s = m
            · rw [if_neg h3, if_pos h4, if_pos (by omega)]
            · rw [if_neg h3, if_neg h4, if_neg (by omega)]
        · simp [hq]
    rw [h1, sumN_add, ih, h2, cntB_succ]
    congr 1
    by_cases hq : q s = true
    · rw [if_pos ⟨hq, hp⟩, if_pos hq]
    · rw [if_neg (fun e => hq e.1), if_neg hq]
end Go.Proofs.YtcmomghlepmogaaDoor

/- Boards of the program: CountDark. -/
namespace Go.Proofs.YtcmomghlepmogaaDoor
open Go.RowKit
set_option maxRecDepth 100000

/-- A row held in a cell of its own. -/
structure RowBox (u : World) (g b l c : Nat) (xs : List Int) : Prop where
  k0 : u.cell? ⟨g, 0, none⟩ = some (.slice (some ⟨b, 0, none⟩) l c)
  i0 : IntsIn u u.heap.size (some ⟨b, 0, none⟩) xs
  lt : g < u.heap.size
theorem RowBox.later {u u' : World} {g b l c : Nat} {xs : List Int} (h : RowBox u g b l c xs) (hb : Below u.heap.size u u') : RowBox u' g b l c xs :=
  ⟨(hb.cell h.lt).trans h.k0, (h.i0.below hb (Nat.le_refl _)).more hb.size, Nat.lt_of_lt_of_le h.lt hb.size⟩
theorem darkAt_any (u : World) (g b l c : Nat) (xs : List Int) (h : RowBox u g b l c xs) (hx : xs.length = l) (k : Nat) (hk : k < l) (z : Nat) (hz : xs.getD k 0 = (z : Nat)) :
    Calls Tryd.prog 55 #[.int .i64 k, .pointer (some ⟨g, 0, none⟩)] u fun e w' => e = .returned (.int .i64 (z : Nat)) ∧ Below u.heap.size u w' := by
  obtain ⟨k0, i0, -⟩ := h
  obtain ⟨b', off, hbo, hb1, g1⟩ := i0 k _ (ints_at (show k < xs.length by omega))
  injection hbo with hbo; injection hbo with e1 e2; subst e1 e2
  rw [hz, Nat.zero_add] at g1
  clear i0 hx hz
  go_enter Tryd.func55, Tryd.ntmps55
  go_wp2_with fail
  go_returns
  exact ⟨by first | rfl | simp, Below.refl _ _⟩
theorem darkTest_any (s c r : Int) (b0 b1 : Nat) (v : World) (hL : LaidB v) (h0 : v.cell? ⟨b0, 0, none⟩ = some (.int .i64 c)) (h1 : v.cell? ⟨b1, 0, none⟩ = some (.int .i64 r)) :
    Calls Tryd.prog 52 #[.int .i64 s, .pointer (some ⟨b0, 0, none⟩), .pointer (some ⟨b1, 0, none⟩)] v fun e w' => e = .returned (.bool (darkI s c r)) ∧ Below v.heap.size v w' := by
  go_enter Tryd.func52, Tryd.ntmps52
  go_wp2_with fail
  refine (darkOk_any _ _ _ _ hL).mono ?_
  rintro e1 w1 ⟨rfl, hb1⟩
  go_wp2_with fail
  go_returns
  exact ⟨rfl, hb1⟩
theorem GotInts.rowAt {w w' : World} {m : Nat} {xs : List Int} {e : Ending} (hl : xs.length = m + 1) (h : GotInts w xs e w') : ∃ g c, e = .returned (.slice (some ⟨g, 0, none⟩) (m + 1 : Nat) c) ∧ OwnI w' w.heap.size (.slice (some ⟨g, 0, none⟩) (m + 1) c) xs ∧ Below w.heap.size w w' := by
  obtain ⟨A, k, rfl, own, hb⟩ := h
  rw [hl] at own ⊢
  rcases own.form with ⟨_, h0⟩ | ⟨g, k', hv, _, _⟩
  · rw [h0] at hl; simp at hl
  · injection hv with hA _ hc
    subst hA
    exact ⟨g, k, rfl, own, hb⟩

set_option maxHeartbeats 2000000 in
theorem countDark_any (c r : Int) (w : World) (hL : LaidB w) : Calls Tryd.prog 29 #[.int .i64 c, .int .i64 r] w fun e w' => e = .returned (.int .i64 (cntDI c r)) ∧ Below w.heap.size w w' := by
  have hmf : ∀ (fn : Fn) (first cap : Array Value) (w : World), (Instr.makeFunc fn first cap).run Tryd.prog w = .ok (.func fn first cap) w := fun _ _ _ _ => rfl
  unfold cntDI
  cases hB : boardB c r with
  | false =>
    have HB := Lib.hid hB
    rw [if_neg (by simp)]
    clear hB
    have B2 : Below w.heap.size w ((w.alloc (.cells #[.int .i64 c] 3)).alloc (.cells #[.int .i64 r] 3)) := ((Below.refl _ _).alloc (by simp) _).alloc (by simp) _
    go_enter Tryd.func29, Tryd.ntmps29
    go_wp2_with fail
    refine (boardOk_any _ _ _).mono ?_
    rintro e1 w1 ⟨rfl, hb1⟩
    rw [HB.out]
    have B3 := B2.trans (hb1.mono B2.size)
    go_wp2_with fail
    go_returns
    exact ⟨rfl, B3⟩
  | true =>
    have HB := Lib.hid hB
    rw [if_pos rfl]
    obtain ⟨C, R, rfl, rfl, hc, hr⟩ := board_nat hB
    rw [show ((C : Nat) : Int).toNat = C from rfl, show ((R : Nat) : Int).toNat = R from rfl, ← dark_cnt hc hr]
    obtain ⟨n, hn, n1, n12, hnI, wn⟩ := prod_small hc hr
    have hq : ∀ s : Nat, s < 2 ^ n → darkI (s : Nat) C R = darkN C R s := fun s hs => (by
      have h1 : inB (s : Nat) ((2 ^ n : Nat) : Int) = true := inB_of hs
      unfold darkI stateB
      rw [hB, show ((C : Nat) : Int).toNat = C from rfl, show ((R : Nat) : Int).toNat = R from rfl, hn, h1]; rfl)
    rw [hn]
    have hsum : cntB (darkN C R) (2 ^ n) = sumN (fun k => cntS (darkN C R) (2 ^ n) k) (n + 1) := (sum_cnt _ _ _ fun t ht => by have := pop_low13 ht (by omega); omega).symm
    have hle : ∀ k, cntS (darkN C R) (2 ^ n) k ≤ 8192 := fun k => Nat.le_trans (cntS_le _ _ _) (Nat.le_trans (Nat.pow_le_pow_right (n := 2) (by omega) (show n ≤ 13 by omega)) (by decide))
    rw [hsum]
    generalize darkN C R = q at *
    have HQ := Lib.hid hq
    have HLE := Lib.hid hle
    have B2 : Below w.heap.size w ((w.alloc (.cells #[.int .i64 C] 3)).alloc (.cells #[.int .i64 R] 3)) := ((Below.refl _ _).alloc (by simp) _).alloc (by simp) _
    obtain ⟨u, hu⟩ : ∃ u, u = (w.alloc (.cells #[.int .i64 C] 3)).alloc (.cells #[.int .i64 R] 3) := ⟨_, rfl⟩
    have a0 : u.cell? ⟨w.heap.size, 0, none⟩ = some (.int .i64 C) := by rw [hu, World.cell?_alloc_past _ _ _ (by simp), World.cell?_alloc_at _ _ _ _ (by simp)]; rfl
    have a1 : u.cell? ⟨w.heap.size + 1, 0, none⟩ = some (.int .i64 R) := by rw [hu, World.cell?_alloc_at _ _ _ _ (by simp)]; rfl
    have l0 : w.heap.size < u.heap.size := by rw [hu]; simp; omega
    have l1 : w.heap.size + 1 < u.heap.size := by rw [hu]; simp
    rw [← hu] at B2
    have hLu := hL.on B2
    have HCS : Hid (∀ v, Below u.heap.size u v → Calls Tryd.prog 46 #[.int .i64 n, .func (.func 52) #[] #[.pointer (some ⟨w.heap.size, 0, none⟩), .pointer (some ⟨w.heap.size + 1, 0, none⟩)]] v (GotInts v (cntR q (2 ^ n) (n + 1)))) := fun v hv =>
      setsDark_any _ _ n q v (by omega) fun v2 hv2 s hs => by
        have hv3 := hv.trans (hv2.mono hv.size)
        rw [← HQ.out s hs]
        exact darkTest_any s C R _ _ v2 (hLu.on hv3) ((hv3.cell l0).trans a0) ((hv3.cell l1).trans a1)
    have HA0 : Hid (∀ v, Below u.heap.size u v → v.cell? ⟨w.heap.size, 0, none⟩ = some (.int .i64 C) ∧ v.cell? ⟨w.heap.size + 1, 0, none⟩ = some (.int .i64 R)) := fun v hv => ⟨(hv.cell l0).trans a0, (hv.cell l1).trans a1⟩
    have HGT : Hid (∀ k, k < n + 1 → (cntR q (2 ^ n) (n + 1)).getD k 0 = (cntS q (2 ^ n) k : Nat)) := fun k hk => cntR_getD q _ hk
    have HLN : Hid ((cntR q (2 ^ n) (n + 1)).length = n + 1) := cntR_length _ _ _
    obtain ⟨f, hf⟩ : ∃ f : Nat → Nat, (fun k => cntS q (2 ^ n) k) = f := ⟨_, rfl⟩
    have HF : Hid (∀ k, cntS q (2 ^ n) k = f k) := fun k => by rw [← hf]
    rw [hf]
    have HF8 : Hid (∀ k, f k ≤ 8192) := fun k => by rw [← hf]; exact HLE.out k
    generalize cntR q (2 ^ n) (n + 1) = L at *
    have HBB := Lib.hid B2
    subst hu
    clear hf hB hn hnI hq hle hsum hc hr B2 a0 a1 l0 l1 hLu HLE HQ
    go_enter Tryd.func29, Tryd.ntmps29
    go_wp2_with fail
    refine (boardOk_any _ _ _).mono ?_
    rintro e1 w1 ⟨rfl, hb1⟩
    rw [HB.out]
    obtain ⟨d0, d1⟩ := HA0.out _ hb1
    have B3 := HBB.out.trans (hb1.mono HBB.out.size)
    have HC1 := Lib.hid (HCS.out _ hb1)
    clear hb1
    go_wp2_with fail
    refine HC1.out.mono ?_
    intro e2 w2 h2
    obtain ⟨g, k, rfl, own, hb2⟩ := h2.rowAt HLN.out
    have B4 := B3.trans (hb2.mono B3.size)
    clear h2 hb2 B3 d0 d1
    have RH : RowBox (w2.alloc (.cells #[.slice (some ⟨g, 0, none⟩) (n + 1) k] 31)) w2.heap.size g (n + 1) k L :=
      ⟨by rw [World.cell?_alloc_at _ _ _ _ rfl]; rfl, (own.ints.alloc (Nat.le_refl _) _).more (by simp), by simp⟩
    have B5 : Below w.heap.size w (w2.alloc (.cells #[.slice (some ⟨g, 0, none⟩) (n + 1) k] 31)) := B4.alloc B4.size _
    have HSUM := Lib.hid (sumDark_any w2.heap.size (n + 1) f (w2.alloc (.cells #[.slice (some ⟨g, 0, none⟩) (n + 1) k] 31)) (by omega) HF8.out (fun v hv j hj => darkAt_any v _ _ _ _ _ (RH.later hv) HLN.out j hj _ (by rw [HGT.out j hj, HF.out j])))
    clear RH own
    go_wp2_with fail
    refine HSUM.out.mono ?_
    rintro e3 w3 ⟨rfl, hb3⟩
    go_wp2_with fail
    go_returns
    exact ⟨rfl, B5.trans (hb3.mono B5.size)⟩
end Go.Proofs.YtcmomghlepmogaaDoor
