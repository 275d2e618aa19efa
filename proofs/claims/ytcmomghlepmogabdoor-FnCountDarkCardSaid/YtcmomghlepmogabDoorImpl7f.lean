/- Boards of the program: DarkOk, LightOk, CountDark. -/
import Derived.Test.YtcmomghlepmogabDoorImpl7e
namespace Go.Proofs.YtcmomghlepmogabDoor
open Go.RowKit
set_option maxRecDepth 100000

set_option maxHeartbeats 2000000 in
theorem cellsWalk_any (c r K F G : Nat) (hc : 1 ≤ c ∧ c ≤ 4) (hr : 1 ≤ r ∧ r ≤ 3) (hK : K < 2 ^ 64) (hF : F < 2 ^ (c * r)) (hG : G < 2 ^ 16) (w : World) (hL : LaidB w) :
    Calls Tryd.prog 37 #[.agg #[.int .i64 c, .int .i64 r], .int .u64 K, .int .u64 F, .int .u64 G] w fun e w' => ∃ D : Nat, Walk7 (fun a b => (stepsN c r tSteps (a % c : Nat) (a / c : Nat) 6 &&& K).testBit b) (c * r) (F &&& K) D 0 ∧ e = .returned (.bool (!(D &&& G == 0))) ∧ Below w.heap.size w w' := by
  have hmf : ∀ (fn : Fn) (first cap : Array Value) (w : World), (Instr.makeFunc fn first cap).run Tryd.prog w = .ok (.func fn first cap) w := fun _ _ _ _ => rfl
  have h12 : c * r ≤ 12 := Nat.mul_le_mul hc.2 hr.2
  have hp : 2 ^ (c * r) ≤ 2 ^ 12 := Nat.pow_le_pow_right (by omega) h12
  have wa : Go.bits .and .u64 (F : Int) (K : Int) = ((F &&& K : Nat) : Int) := and_u (by omega) hK
  have hFK : F &&& K < 2 ^ (c * r) := Nat.lt_of_le_of_lt Nat.and_le_left hF
  have B2 : Below w.heap.size w ((w.alloc (.cells #[.int .i64 c, .int .i64 r] 40)).alloc (.cells #[.int .u64 K] 42)) := ((Below.refl _ _).alloc (by simp) _).alloc (by simp) _
  obtain ⟨u, hu⟩ : ∃ u, u = (w.alloc (.cells #[.int .i64 c, .int .i64 r] 40)).alloc (.cells #[.int .u64 K] 42) := ⟨_, rfl⟩
  have a0 : u.cell? ⟨w.heap.size, 0, none⟩ = some (.int .i64 c) := by rw [hu, World.cell?_alloc_past _ _ _ (by simp), World.cell?_alloc_at _ _ _ _ (by simp)]; rfl
  have a1 : u.cell? ⟨w.heap.size, 1, none⟩ = some (.int .i64 r) := by rw [hu, World.cell?_alloc_past _ _ _ (by simp), World.cell?_alloc_at _ _ _ _ (by simp)]; rfl
  have k0 : u.cell? ⟨w.heap.size + 1, 0, none⟩ = some (.int .u64 K) := by rw [hu, World.cell?_alloc_at _ _ _ _ (by simp)]; rfl
  have l0 : w.heap.size < u.heap.size := by rw [hu]; simp; omega
  have l1 : w.heap.size + 1 < u.heap.size := by rw [hu]; simp
  rw [← hu] at B2
  have hLu := hL.on B2
  have HC : Hid (Calls Tryd.prog 50 #[.agg #[.int .i64 c, .int .i64 r], .int .u64 (F &&& K : Nat), .int .u64 G, .func (.func 51) #[] #[.pointer (some ⟨w.heap.size, 0, none⟩), .pointer (some ⟨w.heap.size + 1, 0, none⟩)]] u fun e w' => ∃ D : Nat, Walk7 (fun a b => (stepsN c r tSteps (a % c : Nat) (a / c : Nat) 6 &&& K).testBit b) (c * r) (F &&& K) D 0 ∧ e = .returned (.bool (!(D &&& G == 0))) ∧ Below u.heap.size u w') :=
    leadsCells_any c r (c * r) (F &&& K) G (fun a => stepsN c r tSteps (a % c : Nat) (a / c : Nat) 6 &&& K) _ _ u hLu.z hc h12 hFK hG
      (fun i hi => Nat.lt_of_le_of_lt Nat.and_le_left (touch_lt c (by omega) r (by omega) i hi))
      (fun v hv i hi => by
        have hm : i % c ≤ i := Nat.mod_le _ _
        have hd : i / c ≤ i := Nat.div_le_self _ _
        exact cellsNext_any c r K _ _ _ _ hc hr ⟨Int.natCast_nonneg _, by omega⟩ ⟨Int.natCast_nonneg _, by omega⟩ hK v (hLu.t.on hv) ((hv.cell l0).trans a0) ((hv.cell l0).trans a1) ((hv.cell l1).trans k0) (Nat.lt_of_lt_of_le l0 hv.size) (Nat.lt_of_lt_of_le l1 hv.size))
  generalize (fun a b => (stepsN c r tSteps (a % c : Nat) (a / c : Nat) 6 &&& K).testBit b) = T at *
  generalize F &&& K = FK at *
  generalize c * r = n at *
  have HB := Lib.hid B2
  have HL2 := Lib.hid hLu
  subst hu
  clear B2 hLu hL l0 l1 hp hF h12 hFK
  go_enter Tryd.func37, Tryd.ntmps37
  go_wp2_with fail
  refine HC.out.mono ?_
  rintro e1 w1 ⟨D, hW, rfl, hb1⟩
  go_wp2_with fail
  go_returns
  exact ⟨D, hW, rfl, HB.out.trans (hb1.mono HB.out.size)⟩

theorem cellsDark_any (c r S : Nat) (hc : 1 ≤ c ∧ c ≤ 4) (hr : 1 ≤ r ∧ r ≤ 3) (hS : S < 2 ^ (c * r)) (w : World) (hL : LaidB w) :
    Calls Tryd.prog 37 #[.agg #[.int .i64 c, .int .i64 r], .int .u64 S, .int .u64 (colL c r : Nat), .int .u64 (colR c r : Nat)] w fun e w' => e = .returned (.bool (darkN c r S)) ∧ Below w.heap.size w w' := by
  have h12 : c * r ≤ 12 := Nat.mul_le_mul hc.2 hr.2
  have hp : 2 ^ (c * r) ≤ 2 ^ 12 := Nat.pow_le_pow_right (by omega) h12
  have hs : ∀ c, c < 5 → ∀ r, r < 4 → 1 ≤ c → colL c r < 2 ^ (c * r) ∧ colR c r < 2 ^ 16 := by decide +kernel
  obtain ⟨s1, s2⟩ := hs c (by omega) r (by omega) hc.1
  refine (cellsWalk_any c r S _ _ hc hr (by omega) s1 s2 w hL).mono ?_
  rintro e w' ⟨D, hW, rfl, hb⟩
  refine ⟨retB (dark_is hc hr hS (hW.reach (fun a b ha hb => ?_) (fun i => ?_) hS)), hb⟩
  · show (_ &&& S).testBit b = _
    rw [Nat.testBit_and, touch_at (by omega) (by omega) ha hb]
  · rw [Nat.testBit_and, Bool.and_comm]
theorem cellsLight_any (c r S : Nat) (hc : 1 ≤ c ∧ c ≤ 4) (hr : 1 ≤ r ∧ r ≤ 3) (hS : S < 2 ^ (c * r)) (w : World) (hL : LaidB w) :
    Calls Tryd.prog 37 #[.agg #[.int .i64 c, .int .i64 r], .int .u64 (notU S : Nat), .int .u64 (rowLow c : Nat), .int .u64 (rowHigh c r : Nat)] w fun e w' => e = .returned (.bool (lightN c r S)) ∧ Below w.heap.size w w' := by
  have h12 : c * r ≤ 12 := Nat.mul_le_mul hc.2 hr.2
  have hp : 2 ^ (c * r) ≤ 2 ^ 12 := Nat.pow_le_pow_right (by omega) h12
  have hp1 := Nat.one_le_two_pow (n := c * r)
  have hs : ∀ c, c < 5 → ∀ r, r < 4 → 1 ≤ c → 1 ≤ r → rowLow c < 2 ^ (c * r) ∧ rowHigh c r < 2 ^ 16 := by decide +kernel
  obtain ⟨s1, s2⟩ := hs c (by omega) r (by omega) hc.1 hr.1
  have hnot : ∀ i, i < c * r → (notU S).testBit i = (2 ^ (c * r) - 1 - S).testBit i := fun i hi => by
    rw [notU_bit hS (by omega) hi, show 2 ^ (c * r) - 1 - S = 2 ^ (c * r) - (S + 1) by omega, Nat.testBit_two_pow_sub_succ hS]
    simp [hi]
  refine (cellsWalk_any c r (notU S) _ _ hc hr (notU_lt S) s1 s2 w hL).mono ?_
  rintro e w' ⟨D, hW, rfl, hb⟩
  refine ⟨retB (light_is hc hr hS (hW.reach (fun a b ha hb => ?_) (fun i => ?_) (by omega))), hb⟩
  · show (_ &&& notU S).testBit b = _
    rw [Nat.testBit_and, touch_at (by omega) (by omega) ha hb, hnot b hb]
  · rw [Nat.testBit_and]
    by_cases hi : i < c * r
    · rw [hnot i hi, Bool.and_comm]
    · rw [Nat.testBit_lt_two_pow (Nat.lt_of_lt_of_le s1 (Nat.pow_le_pow_right (by omega) (by omega)))]; simp

theorem not_key : ∀ S : Nat, S < 4096 → Go.bits .xor .u64 (if IntKind.u64.signed = true then -1 else IntKind.u64.max) (S : Int) = ((notU S : Nat) : Int) := by decide +kernel
/-- The class of an area of the call's own, with all tables. -/
structure BoardAt2 (w u : World) (b0 c r : Nat) : Prop where
  area : AreaAt w u b0 c r
  laid : LaidB u
theorem BoardAt2.on {w u : World} {b0 c r : Nat} (h : BoardAt2 w u b0 c r) : ∀ w', Below u.heap.size u w' → BoardAt2 w w' b0 c r := fun _ hb => ⟨h.area.step hb, h.laid.on hb⟩
theorem BoardAt2.drew {w u : World} {b0 c r : Nat} (h : BoardAt2 w u b0 c r) : BoardAt2 w u.drew b0 c r := h.on _ ((Below.refl _ _).drew)

set_option maxHeartbeats 2000000 in
theorem darkOk_any (s c r : Int) (w : World) (hL : LaidB w) : Calls Tryd.prog 16 #[.int .i64 s, .int .i64 c, .int .i64 r] w fun e w' => e = .returned (.bool (darkI s c r)) ∧ Below w.heap.size w w' := by
  unfold darkI
  cases hS : stateB s c r with
  | false =>
    have HS := Lib.hid hS
    clear hS
    go_enter Tryd.func16, Tryd.ntmps16
    go_wp2_with fail
    refine (boardStateOk_any _ _ _ _).mono ?_
    rintro e1 w1 ⟨rfl, hb1⟩
    rw [HS.out]
    go_wp2_with fail
    go_returns
    exact ⟨rfl, hb1⟩
  | true =>
    have HS := Lib.hid hS
    unfold stateB at hS
    rw [Bool.and_eq_true] at hS
    obtain ⟨h1, h2⟩ := hS
    obtain ⟨C, R, rfl, rfl, hc, hr⟩ := board_nat h1
    rw [show ((C : Nat) : Int).toNat = C from rfl, show ((R : Nat) : Int).toNat = R from rfl] at *
    obtain ⟨S, rfl, hSS⟩ := inB_nat h2
    rw [show ((S : Nat) : Int).toNat = S from rfl]
    have h12 : C * R ≤ 12 := Nat.mul_le_mul hc.2 hr.2
    have hp : 2 ^ (C * R) ≤ 2 ^ 12 := Nat.pow_le_pow_right (by omega) h12
    have wu : IntKind.u64.wrap (S : Int) = (S : Int) := IntWalk.u64_in _ (by omega)
    have w1' : IntKind.i64.wrap ((C : Int) - 1) = (C : Int) - 1 := IntWalk.i64_in _ (by omega)
    have w2' : IntKind.i64.wrap ((R : Int) - 1) = (R : Int) - 1 := IntWalk.i64_in _ (by omega)
    have wn := not_key S (by omega)
    have HX : Hid (∀ u, LaidB u → Calls Tryd.prog 37 #[.agg #[.int .i64 C, .int .i64 R], .int .u64 S, .int .u64 (colL C R : Nat), .int .u64 (colR C R : Nat)] u fun e w' => e = .returned (.bool (darkN C R S)) ∧ Below u.heap.size u w') := fun u hu => cellsDark_any C R S hc hr hSS u hu
    have sides := col_sides C (by omega) R (by omega) hc.1
    have H0 : Hid (∀ u, Calls Tryd.prog 38 #[.agg #[.int .i64 C, .int .i64 R], .int .i64 0] u fun e w' => e = .returned (.int .u64 (colL C R : Nat)) ∧ Below u.heap.size u w') := fun u => by
      rw [← sides.1]; exact columnSet_any C R 0 (by omega) (by omega) u
    have H1 : Hid (∀ u, Calls Tryd.prog 38 #[.agg #[.int .i64 C, .int .i64 R], .int .i64 ((C : Int) - 1)] u fun e w' => e = .returned (.int .u64 (colR C R : Nat)) ∧ Below u.heap.size u w') := fun u => by
      rw [show colR C R = colR C R from rfl, ← sides.2]; exact columnSet_any C R _ (by omega) (by omega) u
    clear h1 h2 sides hp hSS h12
    generalize colL C R = X0 at *
    generalize colR C R = X1 at *
    generalize darkN C R S = v at *
    generalize notU S = nS at *
    generalize hl1 : (C : Int) - 1 = l1 at *
    go_enter Tryd.func16, Tryd.ntmps16
    go_wp2_with fail
    refine (boardStateOk_any _ _ _ _).mono ?_
    rintro e1 w1 ⟨rfl, hb1⟩
    rw [HS.out]
    have D0 : BoardAt2 w1 (w1.alloc (.cells #[.int .i64 C, .int .i64 R] 40)) w1.heap.size C R := ⟨AreaAt.start w1 C R _, (hL.on hb1).on ((Below.refl _ _).alloc (by simp) _)⟩
    go_wp2_with fail
    refine wp_region_class (BoardAt2 w1 · w1.heap.size C R) (by kernel_rfl) (by kernel_rfl) D0.drew ?_
    intro X hX f hf hex
    have k0 : ∀ z, (f z).cell? ⟨w1.heap.size, 0, none⟩ = some (.int .i64 C) := fun z => (hf z).area.a0
    have k1 : ∀ z, (f z).cell? ⟨w1.heap.size, 1, none⟩ = some (.int .i64 R) := fun z => (hf z).area.a1
    repeat (go_big_quiet_step (first
      | (go_at_call 38; with_reducible exact class_of hex (H0.out _) (hf _).on)
      | (go_at_call 38; with_reducible exact class_of hex (H1.out _) (hf _).on)
      | (go_at_call 37; with_reducible exact class_of hex (HX.out _ (hf _).laid) (hf _).on)))
    refine wpQuiet_nil ?_
    rintro _ ⟨z, rfl⟩
    have DX := hf z
    go_wp2_with fail
    go_returns
    exact ⟨retB (by simp), hb1.trans (DX.area.below.mono hb1.size)⟩

set_option maxHeartbeats 2000000 in
theorem lightOk_any (s c r : Int) (w : World) (hL : LaidB w) : Calls Tryd.prog 19 #[.int .i64 s, .int .i64 c, .int .i64 r] w fun e w' => e = .returned (.bool (lightI s c r)) ∧ Below w.heap.size w w' := by
  unfold lightI
  cases hS : stateB s c r with
  | false =>
    have HS := Lib.hid hS
    clear hS
    go_enter Tryd.func19, Tryd.ntmps19
    go_wp2_with fail
    refine (boardStateOk_any _ _ _ _).mono ?_
    rintro e1 w1 ⟨rfl, hb1⟩
    rw [HS.out]
    go_wp2_with fail
    go_returns
    exact ⟨rfl, hb1⟩
  | true =>
    have HS := Lib.hid hS
    unfold stateB at hS
    rw [Bool.and_eq_true] at hS
    obtain ⟨h1, h2⟩ := hS
    obtain ⟨C, R, rfl, rfl, hc, hr⟩ := board_nat h1
    rw [show ((C : Nat) : Int).toNat = C from rfl, show ((R : Nat) : Int).toNat = R from rfl] at *
    obtain ⟨S, rfl, hSS⟩ := inB_nat h2
    rw [show ((S : Nat) : Int).toNat = S from rfl]
    have h12 : C * R ≤ 12 := Nat.mul_le_mul hc.2 hr.2
    have hp : 2 ^ (C * R) ≤ 2 ^ 12 := Nat.pow_le_pow_right (by omega) h12
    have wu : IntKind.u64.wrap (S : Int) = (S : Int) := IntWalk.u64_in _ (by omega)
    have w1' : IntKind.i64.wrap ((C : Int) - 1) = (C : Int) - 1 := IntWalk.i64_in _ (by omega)
    have w2' : IntKind.i64.wrap ((R : Int) - 1) = (R : Int) - 1 := IntWalk.i64_in _ (by omega)
    have wn := not_key S (by omega)
    have HX : Hid (∀ u, LaidB u → Calls Tryd.prog 37 #[.agg #[.int .i64 C, .int .i64 R], .int .u64 (notU S : Nat), .int .u64 (rowLow C : Nat), .int .u64 (rowHigh C R : Nat)] u fun e w' => e = .returned (.bool (lightN C R S)) ∧ Below u.heap.size u w') := fun u hu => cellsLight_any C R S hc hr hSS u hu
    have sides := row_sides C (by omega) R (by omega) hc.1 hr.1
    have H0 : Hid (∀ u, Calls Tryd.prog 41 #[.agg #[.int .i64 C, .int .i64 R], .int .i64 0] u fun e w' => e = .returned (.int .u64 (rowLow C : Nat)) ∧ Below u.heap.size u w') := fun u => by
      rw [← sides.1]; exact rowSet_any C R 0 (by omega) (by omega) u
    have H1 : Hid (∀ u, Calls Tryd.prog 41 #[.agg #[.int .i64 C, .int .i64 R], .int .i64 ((R : Int) - 1)] u fun e w' => e = .returned (.int .u64 (rowHigh C R : Nat)) ∧ Below u.heap.size u w') := fun u => by
      rw [show rowHigh C R = rowLow C * 2 ^ ((R - 1) * C) from rfl, ← sides.2]; exact rowSet_any C R _ (by omega) (by omega) u
    clear h1 h2 sides hp hSS h12
    generalize rowLow C = X0 at *
    generalize rowHigh C R = X1 at *
    generalize lightN C R S = v at *
    generalize notU S = nS at *
    generalize hl1 : (R : Int) - 1 = l1 at *
    go_enter Tryd.func19, Tryd.ntmps19
    go_wp2_with fail
    refine (boardStateOk_any _ _ _ _).mono ?_
    rintro e1 w1 ⟨rfl, hb1⟩
    rw [HS.out]
    have D0 : BoardAt2 w1 (w1.alloc (.cells #[.int .i64 C, .int .i64 R] 40)) w1.heap.size C R := ⟨AreaAt.start w1 C R _, (hL.on hb1).on ((Below.refl _ _).alloc (by simp) _)⟩
    go_wp2_with fail
    refine wp_region_class (BoardAt2 w1 · w1.heap.size C R) (by kernel_rfl) (by kernel_rfl) D0.drew ?_
    intro X hX f hf hex
    have k0 : ∀ z, (f z).cell? ⟨w1.heap.size, 0, none⟩ = some (.int .i64 C) := fun z => (hf z).area.a0
    have k1 : ∀ z, (f z).cell? ⟨w1.heap.size, 1, none⟩ = some (.int .i64 R) := fun z => (hf z).area.a1
    repeat (go_big_quiet_step (first
      | (go_at_call 41; with_reducible exact class_of hex (H0.out _) (hf _).on)
      | (go_at_call 41; with_reducible exact class_of hex (H1.out _) (hf _).on)
      | (go_at_call 37; with_reducible exact class_of hex (HX.out _ (hf _).laid) (hf _).on)))
    refine wpQuiet_nil ?_
    rintro _ ⟨z, rfl⟩
    have DX := hf z
    go_wp2_with fail
    go_returns
    exact ⟨retB (by simp), hb1.trans (DX.area.below.mono hb1.size)⟩

set_option maxHeartbeats 2000000 in
theorem sumDark_any (g0 m : Nat) (f : Nat → Nat) (u : World) (hm : m ≤ 13) (hf : ∀ k, f k ≤ 8192)
    (HK : ∀ v, Below u.heap.size u v → ∀ k : Nat, k < m → Calls Tryd.prog 46 #[.int .i64 k, .pointer (some ⟨g0, 0, none⟩)] v fun e w' => e = .returned (.int .i64 (f k : Nat)) ∧ Below v.heap.size v w') :
    Calls Tryd.prog 45 #[.int .i64 m, .func (.func 46) #[] #[.pointer (some ⟨g0, 0, none⟩)]] u fun e w' => e = .returned (.int .i64 (sumN f m : Nat)) ∧ Below u.heap.size u w' := by
  have hsum : ∀ k, sumN f k ≤ k * 8192 := fun k => by
    induction k with
    | zero => simp [sumN]
    | succ k ih => have := hf k; rw [sumN, Nat.succ_mul]; omega
  have HSM := Lib.hid hsum
  have HF := Lib.hid hf
  have HC := Lib.hid HK
  clear hf HK hsum
  go_enter Tryd.func45, Tryd.ntmps45
  go_wp2_with fail
  go_loopw [5, 6, 8] (fun v _ t wr => ∃ k : Nat, k ≤ m ∧ t = .int .i64 (k : Nat) ∧ v = .int .i64 (sumN f k : Nat) ∧ Below u.heap.size u wr) (fun _ _ t _ => m - (intOf t).toNat)
  case atStart => exact ⟨0, by omega, rfl, rfl, Below.refl _ _⟩
  case round =>
    obtain ⟨k, hk, rfl, rfl, hb⟩ := hrel
    by_cases hlt : k < m
    · have z1 := HSM.out k
      have z2 := HF.out k
      have HS : Hid (sumN f (k + 1) = sumN f k + f k) := rfl
      have hcall := HC.out _ hb k hlt
      obtain ⟨x, hx⟩ : ∃ x, sumN f (k + 1) = x := ⟨_, rfl⟩
      rw [hx] at HS
      have HX := Lib.hid hx
      clear hx
      generalize sumN f k = y at *
      generalize f k = z at *
      have wz : IntKind.i64.wrap ((y : Int) + (z : Int)) = (x : Int) := by rw [IntWalk.i64_in _ (by omega), HS.out]; omega
      clear z1 z2
      go_wp2_with fail
      refine hcall.mono ?_
      clear hcall
      rintro e1 w1 ⟨rfl, hb1⟩
      have hb2 := hb.trans (hb1.mono hb.size)
      go_wp2_with fail
      go_roundw
      case rel => exact ⟨k + 1, by omega, by go_num, by rw [HX.out], hb2⟩
      case measure => simp [intOf]; omega
    · obtain rfl : k = m := by omega
      go_wp2_with fail
      go_returns
      exact ⟨rfl, hb⟩
theorem sum_cnt (q : Nat → Bool) (m : Nat) : ∀ s, (∀ t, t < s → pop t < m) → sumN (fun k => cntS q s k) m = cntB q s
  | 0, _ => by
    have : ∀ m, sumN (fun k => cntS q 0 k) m = 0 := fun m => by
      induction m with
      | zero => rfl
      | succ m ih => rw [sumN, ih]; rfl
    rw [this]; rfl
  | s + 1, h => by
    have ih := sum_cnt q m s (fun t ht => h t (by omega))
    have hp := h s (by omega)
    have h1 : sumN (fun k => cntS q (s + 1) k) m = sumN (fun k => cntS q s k + if q s = true ∧ pop s = k then 1 else 0) m := sumN_congr m fun k _ => cntS_succ q s k
    have h2 : ∀ m, sumN (fun k => if q s = true ∧ pop s = k then 1 else 0) m = if q s = true ∧ pop s < m then 1 else 0 := fun m => by
      induction m with
      | zero => rw [if_neg (by omega)]; rfl
      | succ m ih =>
        rw [sumN, ih]
        by_cases hq : q s = true
        · simp only [hq, true_and]
          by_cases h3 : pop s < m
          · rw [if_pos h3, if_neg (by omega), if_pos (by omega)]
          · by_cases h4 : pop s = m
            · rw [if_neg h3, if_pos h4, if_pos (by omega)]
            · rw [if_neg h3, if_neg h4, if_neg (by omega)]
        · simp [hq]
    rw [h1, sumN_add, ih, h2, cntB_succ]
    congr 1
    by_cases hq : q s = true
    · rw [if_pos ⟨hq, hp⟩, if_pos hq]
    · rw [if_neg (fun e => hq e.1), if_neg hq]
end Go.Proofs.YtcmomghlepmogabDoor
