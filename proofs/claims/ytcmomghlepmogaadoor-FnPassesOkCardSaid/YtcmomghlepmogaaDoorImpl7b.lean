/- Boards of the program: which cells touch one. -/
import Derived.Test.YtcmomghlepmogaaDoorImpl7
import Derived.Test.YtcmomghlepmogaaDoorBitsU
import Derived.Deep.RegionHeld3
namespace Go.Proofs.YtcmomghlepmogaaDoor
open Go.RowKit
set_option maxRecDepth 100000

theorem only_lt {c r : Nat} {x y : Int} (hc : c ≤ 4) (hr : r ≤ 4) : onlyN c r x y ≤ 32768 := by
  unfold onlyN
  split
  · rename_i h
    have hm : y.toNat * c ≤ 3 * 4 := Nat.mul_le_mul (by omega) hc
    have : y.toNat * c + x.toNat ≤ 15 := by omega
    exact Nat.pow_le_pow_right (n := 2) (by omega) this
  · omega
theorem steps_lt {c r : Nat} {ps : List (Int × Int)} {x y : Int} (hc : c ≤ 4) (hr : r ≤ 4) : ∀ k, stepsN c r ps x y k < 2 ^ 16
  | 0 => by unfold stepsN; omega
  | k + 1 => by
    unfold stepsN
    have := only_lt (c := c) (r := r) (x := x + (ps.getD k (0, 0)).1) (y := y + (ps.getD k (0, 0)).2) hc hr
    exact Nat.or_lt_two_pow (steps_lt hc hr k) (by omega)

/-- What a walk over the steps from a spot lays hold of: the area, the spot, one step. -/
structure StepAt (w u : World) (b0 b1 b2 : Nat) (c r : Nat) (x y dx dy : Int) : Prop where
  a0 : u.cell? ⟨b0, 0, none⟩ = some (.int .i64 c)
  a1 : u.cell? ⟨b0, 1, none⟩ = some (.int .i64 r)
  s0 : u.cell? ⟨b1, 0, none⟩ = some (.int .i64 x)
  s1 : u.cell? ⟨b1, 1, none⟩ = some (.int .i64 y)
  d0 : u.cell? ⟨b2, 0, none⟩ = some (.int .i64 dx)
  d1 : u.cell? ⟨b2, 1, none⟩ = some (.int .i64 dy)
  l0 : b0 < u.heap.size
  l1 : b1 < u.heap.size
  l2 : b2 < u.heap.size
  below : Below w.heap.size w u
theorem StepAt.on {w u : World} {b0 b1 b2 c r : Nat} {x y dx dy : Int} (h : StepAt w u b0 b1 b2 c r x y dx dy) : ∀ w', Below u.heap.size u w' → StepAt w w' b0 b1 b2 c r x y dx dy := fun _ hb =>
  ⟨(hb.cell h.l0).trans h.a0, (hb.cell h.l0).trans h.a1, (hb.cell h.l1).trans h.s0, (hb.cell h.l1).trans h.s1, (hb.cell h.l2).trans h.d0, (hb.cell h.l2).trans h.d1,
    Nat.lt_of_lt_of_le h.l0 hb.size, Nat.lt_of_lt_of_le h.l1 hb.size, Nat.lt_of_lt_of_le h.l2 hb.size, h.below.trans (hb.mono h.below.size)⟩
theorem StepAt.drew {w u : World} {b0 b1 b2 c r : Nat} {x y dx dy : Int} (h : StepAt w u b0 b1 b2 c r x y dx dy) : StepAt w u.drew b0 b1 b2 c r x y dx dy := h.on _ ((Below.refl _ _).drew)
/-- The same, ahead of the step. -/
structure SpotAt (w u : World) (b0 b1 : Nat) (c r : Nat) (x y : Int) : Prop where
  a0 : u.cell? ⟨b0, 0, none⟩ = some (.int .i64 c)
  a1 : u.cell? ⟨b0, 1, none⟩ = some (.int .i64 r)
  s0 : u.cell? ⟨b1, 0, none⟩ = some (.int .i64 x)
  s1 : u.cell? ⟨b1, 1, none⟩ = some (.int .i64 y)
  l0 : b0 < u.heap.size
  l1 : b1 < u.heap.size
  below : Below w.heap.size w u
theorem SpotAt.step {w u : World} {b0 b1 c r : Nat} {x y dx dy : Int} (T : TypeId) (h : SpotAt w u b0 b1 c r x y) : StepAt w (u.alloc (.cells #[.int .i64 dx, .int .i64 dy] T)) b0 b1 u.heap.size c r x y dx dy :=
  ⟨(World.cell?_alloc_past _ _ _ (by have := h.l0; simp; omega)).trans h.a0, (World.cell?_alloc_past _ _ _ (by have := h.l0; simp; omega)).trans h.a1,
    (World.cell?_alloc_past _ _ _ (by have := h.l1; simp; omega)).trans h.s0, (World.cell?_alloc_past _ _ _ (by have := h.l1; simp; omega)).trans h.s1,
    by rw [World.cell?_alloc_at _ _ _ _ (by simp)]; rfl, by rw [World.cell?_alloc_at _ _ _ _ (by simp)]; rfl,
    by have := h.l0; simp; omega, by have := h.l1; simp; omega, by simp, h.below.alloc h.below.size _⟩
theorem SpotAt.start (w : World) (c r : Nat) (x y : Int) (T T' : TypeId) : SpotAt w ((w.alloc (.cells #[.int .i64 c, .int .i64 r] T)).alloc (.cells #[.int .i64 x, .int .i64 y] T')) w.heap.size (w.heap.size + 1) c r x y :=
  ⟨by rw [World.cell?_alloc_past _ _ _ (by simp), World.cell?_alloc_at _ _ _ _ (by simp)]; rfl, by rw [World.cell?_alloc_past _ _ _ (by simp), World.cell?_alloc_at _ _ _ _ (by simp)]; rfl,
    by rw [World.cell?_alloc_at _ _ _ _ (by simp)]; rfl, by rw [World.cell?_alloc_at _ _ _ _ (by simp)]; rfl, by simp; omega, by simp, ((Below.refl _ _).alloc (by simp) _).alloc (by simp) _⟩
theorem StepAt.spot {w u : World} {b0 b1 b2 c r : Nat} {x y dx dy : Int} (h : StepAt w u b0 b1 b2 c r x y dx dy) : SpotAt w u b0 b1 c r x y := ⟨h.a0, h.a1, h.s0, h.s1, h.l0, h.l1, h.below⟩

set_option maxHeartbeats 4000000 in
theorem touching_any (c r : Nat) (x y : Int) (hc : 1 ≤ c ∧ c ≤ 4) (hr : 1 ≤ r ∧ r ≤ 3) (hx : 0 ≤ x ∧ x ≤ 12) (hy : 0 ≤ y ∧ y ≤ 12) (w : World) (hL : LaidT w) :
    Calls Tryd.prog 75 #[.agg #[.int .i64 c, .int .i64 r], .agg #[.int .i64 x, .int .i64 y]] w fun e w' => e = .returned (.int .u64 (stepsN c r tSteps x y 6 : Nat)) ∧ Below w.heap.size w w' := by
  have hL2 : LaidT ((w.alloc (.cells #[.int .i64 c, .int .i64 r] 42)).alloc (.cells #[.int .i64 x, .int .i64 y] 68)) := hL.on (((Below.refl _ _).alloc (by simp) _).alloc (by simp) _)
  have B2 : SpotAt w ((w.alloc (.cells #[.int .i64 c, .int .i64 r] 42)).alloc (.cells #[.int .i64 x, .int .i64 y] 68)) w.heap.size (w.heap.size + 1) c r x y := SpotAt.start w c r x y _ _
  have g0 : ((w.alloc (.cells #[.int .i64 c, .int .i64 r] 42)).alloc (.cells #[.int .i64 x, .int .i64 y] 68)).cell? ⟨1, 0, none⟩ = some (.int .i64 1) := hL2.2 0 (by decide)
  have g1 : ((w.alloc (.cells #[.int .i64 c, .int .i64 r] 42)).alloc (.cells #[.int .i64 x, .int .i64 y] 68)).cell? ⟨1, 1, none⟩ = some (.int .i64 0) := hL2.2 1 (by decide)
  have g2 : ((w.alloc (.cells #[.int .i64 c, .int .i64 r] 42)).alloc (.cells #[.int .i64 x, .int .i64 y] 68)).cell? ⟨1, 2, none⟩ = some (.int .i64 (-1)) := hL2.2 2 (by decide)
  have g3 : ((w.alloc (.cells #[.int .i64 c, .int .i64 r] 42)).alloc (.cells #[.int .i64 x, .int .i64 y] 68)).cell? ⟨1, 3, none⟩ = some (.int .i64 0) := hL2.2 3 (by decide)
  have g4 : ((w.alloc (.cells #[.int .i64 c, .int .i64 r] 42)).alloc (.cells #[.int .i64 x, .int .i64 y] 68)).cell? ⟨1, 4, none⟩ = some (.int .i64 0) := hL2.2 4 (by decide)
  have g5 : ((w.alloc (.cells #[.int .i64 c, .int .i64 r] 42)).alloc (.cells #[.int .i64 x, .int .i64 y] 68)).cell? ⟨1, 5, none⟩ = some (.int .i64 1) := hL2.2 5 (by decide)
  have g6 : ((w.alloc (.cells #[.int .i64 c, .int .i64 r] 42)).alloc (.cells #[.int .i64 x, .int .i64 y] 68)).cell? ⟨1, 6, none⟩ = some (.int .i64 (-1)) := hL2.2 6 (by decide)
  have g7 : ((w.alloc (.cells #[.int .i64 c, .int .i64 r] 42)).alloc (.cells #[.int .i64 x, .int .i64 y] 68)).cell? ⟨1, 7, none⟩ = some (.int .i64 1) := hL2.2 7 (by decide)
  have g8 : ((w.alloc (.cells #[.int .i64 c, .int .i64 r] 42)).alloc (.cells #[.int .i64 x, .int .i64 y] 68)).cell? ⟨1, 8, none⟩ = some (.int .i64 0) := hL2.2 8 (by decide)
  have g9 : ((w.alloc (.cells #[.int .i64 c, .int .i64 r] 42)).alloc (.cells #[.int .i64 x, .int .i64 y] 68)).cell? ⟨1, 9, none⟩ = some (.int .i64 (-1)) := hL2.2 9 (by decide)
  have g10 : ((w.alloc (.cells #[.int .i64 c, .int .i64 r] 42)).alloc (.cells #[.int .i64 x, .int .i64 y] 68)).cell? ⟨1, 10, none⟩ = some (.int .i64 1) := hL2.2 10 (by decide)
  have g11 : ((w.alloc (.cells #[.int .i64 c, .int .i64 r] 42)).alloc (.cells #[.int .i64 x, .int .i64 y] 68)).cell? ⟨1, 11, none⟩ = some (.int .i64 (-1)) := hL2.2 11 (by decide)
  clear hL hL2
  have c1 := hc.2
  have r1 : r ≤ 4 := by omega
  go_enter Tryd.func75, Tryd.ntmps75
  go_wp2_with fail
  go_loopw [5, 9] (fun m k wr => ∃ K : Nat, K ≤ 6 ∧ k = .int .i64 (K : Nat) ∧ m = .int .u64 (stepsN c r tSteps x y K : Nat) ∧ SpotAt w wr w.heap.size (w.heap.size + 1) c r x y) (fun _ k _ => 6 - (intOf k).toNat)
  case atStart => exact ⟨0, by omega, rfl, rfl, B2⟩
  case round =>
    clear B2 g0 g1 g2 g3 g4 g5 g6 g7 g8 g9 g10 g11
    obtain ⟨K, hK, rfl, rfl, B⟩ := hrel
    match K, hK with
    | 0, _ =>
      have HS : Hid (stepsN c r tSteps x y 1 = stepsN c r tSteps x y 0 ||| onlyN c r (x + 1) (y + 0)) := rfl
      have b1 : stepsN c r tSteps x y 0 < 2 ^ 16 := steps_lt c1 r1 _
      have b2 := only_lt (c := c) (r := r) (x := x + 1) (y := y + 0) c1 r1
      generalize hM1 : stepsN c r tSteps x y 1 = M1 at *
      have HM1 := Lib.hid hM1
      clear hM1
      have HA : Hid (∀ u, Calls Tryd.prog 71 #[.agg #[.int .i64 x, .int .i64 y], .agg #[.int .i64 1, .int .i64 0]] u fun e w' => e = .returned (.agg #[.int .i64 (x + 1), .int .i64 (y + 0)]) ∧ Below u.heap.size u w') := fun u => spotAfter_any _ _ _ _ (by omega) (by omega) u
      have HO : Hid (∀ u, Calls Tryd.prog 60 #[.agg #[.int .i64 c, .int .i64 r], .agg #[.int .i64 (x + 1), .int .i64 (y + 0)]] u fun e w' => e = .returned (.int .u64 (onlyN c r (x + 1) (y + 0) : Nat)) ∧ Below u.heap.size u w') := fun u => only_any _ _ _ _ c1 r1 u
      have D0 : StepAt w (wr.alloc (.cells #[.int .i64 1, .int .i64 0] 68)) w.heap.size (w.heap.size + 1) wr.heap.size c r x y 1 0 := B.step _
      clear B
      generalize onlyN c r (x + 1) (y + 0) = o at *
      generalize stepsN c r tSteps x y 0 = m at *
      have wo : Go.bits .or .u64 (m : Int) (o : Int) = ((m ||| o : Nat) : Int) := or_u (by omega) (by omega)
      rw [← HS.out] at wo
      generalize hx2 : x + 1 = x2 at *
      generalize hy2 : y + 0 = y2 at *
      clear hx2 hy2 HS
      have hix : ∀ v : World, (Instr.index 84 (.agg #[.int .i64 1, .int .i64 0, .int .i64 (-1), .int .i64 0, .int .i64 0, .int .i64 1, .int .i64 (-1), .int .i64 1, .int .i64 0, .int .i64 (-1), .int .i64 1, .int .i64 (-1)]) (.int .i64 0)).run Tryd.prog v = .ok (.agg #[.int .i64 1, .int .i64 0]) v := fun v => by kernel_rfl
      go_wp2_with fail
      refine wp_region_class (StepAt w · w.heap.size (w.heap.size + 1) wr.heap.size c r x y 1 0) (by kernel_rfl) (by kernel_rfl) D0.drew ?_
      intro X hX f hf hex
      have k0 : ∀ z, (f z).cell? ⟨w.heap.size, 0, none⟩ = some (.int .i64 c) := fun z => (hf z).a0
      have k1 : ∀ z, (f z).cell? ⟨w.heap.size, 1, none⟩ = some (.int .i64 r) := fun z => (hf z).a1
      have k2 : ∀ z, (f z).cell? ⟨w.heap.size + 1, 0, none⟩ = some (.int .i64 x) := fun z => (hf z).s0
      have k3 : ∀ z, (f z).cell? ⟨w.heap.size + 1, 1, none⟩ = some (.int .i64 y) := fun z => (hf z).s1
      have k4 : ∀ z, (f z).cell? ⟨wr.heap.size, 0, none⟩ = some (.int .i64 1) := fun z => (hf z).d0
      have k5 : ∀ z, (f z).cell? ⟨wr.heap.size, 1, none⟩ = some (.int .i64 0) := fun z => (hf z).d1
      repeat (go_big_quiet_step (first
        | (go_at_call 71; with_reducible exact class_of hex (HA.out _) (hf _).on)
        | (go_at_call 60; with_reducible exact class_of hex (HO.out _) (hf _).on)))
      refine wpQuiet_nil ?_
      rintro _ ⟨z, rfl⟩
      have DX := (hf z).spot
      clear hex k0 k1 k2 k3 k4 k5 D0
      generalize f z = u at *
      clear hf f
      go_wp2_with fail
      go_roundw
      case rel => exact ⟨1, by omega, rfl, by rw [HM1.out], DX⟩
      case measure => simp [intOf]
    | 1, _ =>
      have HS : Hid (stepsN c r tSteps x y 2 = stepsN c r tSteps x y 1 ||| onlyN c r (x + (-1)) (y + 0)) := rfl
      have b1 : stepsN c r tSteps x y 1 < 2 ^ 16 := steps_lt c1 r1 _
      have b2 := only_lt (c := c) (r := r) (x := x + (-1)) (y := y + 0) c1 r1
      generalize hM1 : stepsN c r tSteps x y 2 = M1 at *
      have HM1 := Lib.hid hM1
      clear hM1
      have HA : Hid (∀ u, Calls Tryd.prog 71 #[.agg #[.int .i64 x, .int .i64 y], .agg #[.int .i64 (-1), .int .i64 0]] u fun e w' => e = .returned (.agg #[.int .i64 (x + (-1)), .int .i64 (y + 0)]) ∧ Below u.heap.size u w') := fun u => spotAfter_any _ _ _ _ (by omega) (by omega) u
      have HO : Hid (∀ u, Calls Tryd.prog 60 #[.agg #[.int .i64 c, .int .i64 r], .agg #[.int .i64 (x + (-1)), .int .i64 (y + 0)]] u fun e w' => e = .returned (.int .u64 (onlyN c r (x + (-1)) (y + 0) : Nat)) ∧ Below u.heap.size u w') := fun u => only_any _ _ _ _ c1 r1 u
      have D0 : StepAt w (wr.alloc (.cells #[.int .i64 (-1), .int .i64 0] 68)) w.heap.size (w.heap.size + 1) wr.heap.size c r x y (-1) 0 := B.step _
      clear B
      generalize onlyN c r (x + (-1)) (y + 0) = o at *
      generalize stepsN c r tSteps x y 1 = m at *
      have wo : Go.bits .or .u64 (m : Int) (o : Int) = ((m ||| o : Nat) : Int) := or_u (by omega) (by omega)
      rw [← HS.out] at wo
      generalize hx2 : x + (-1) = x2 at *
      generalize hy2 : y + 0 = y2 at *
      clear hx2 hy2 HS
      have hix : ∀ v : World, (Instr.index 84 (.agg #[.int .i64 1, .int .i64 0, .int .i64 (-1), .int .i64 0, .int .i64 0, .int .i64 1, .int .i64 (-1), .int .i64 1, .int .i64 0, .int .i64 (-1), .int .i64 1, .int .i64 (-1)]) (.int .i64 1)).run Tryd.prog v = .ok (.agg #[.int .i64 (-1), .int .i64 0]) v := fun v => by kernel_rfl
      go_wp2_with fail
      refine wp_region_class (StepAt w · w.heap.size (w.heap.size + 1) wr.heap.size c r x y (-1) 0) (by kernel_rfl) (by kernel_rfl) D0.drew ?_
      intro X hX f hf hex
      have k0 : ∀ z, (f z).cell? ⟨w.heap.size, 0, none⟩ = some (.int .i64 c) := fun z => (hf z).a0
      have k1 : ∀ z, (f z).cell? ⟨w.heap.size, 1, none⟩ = some (.int .i64 r) := fun z => (hf z).a1
      have k2 : ∀ z, (f z).cell? ⟨w.heap.size + 1, 0, none⟩ = some (.int .i64 x) := fun z => (hf z).s0
      have k3 : ∀ z, (f z).cell? ⟨w.heap.size + 1, 1, none⟩ = some (.int .i64 y) := fun z => (hf z).s1
      have k4 : ∀ z, (f z).cell? ⟨wr.heap.size, 0, none⟩ = some (.int .i64 (-1)) := fun z => (hf z).d0
      have k5 : ∀ z, (f z).cell? ⟨wr.heap.size, 1, none⟩ = some (.int .i64 0) := fun z => (hf z).d1
      repeat (go_big_quiet_step (first
        | (go_at_call 71; with_reducible exact class_of hex (HA.out _) (hf _).on)
        | (go_at_call 60; with_reducible exact class_of hex (HO.out _) (hf _).on)))
      refine wpQuiet_nil ?_
      rintro _ ⟨z, rfl⟩
      have DX := (hf z).spot
      clear hex k0 k1 k2 k3 k4 k5 D0
      generalize f z = u at *
      clear hf f
      go_wp2_with fail
      go_roundw
      case rel => exact ⟨2, by omega, rfl, by rw [HM1.out], DX⟩
      case measure => simp [intOf]
    | 2, _ =>
      have HS : Hid (stepsN c r tSteps x y 3 = stepsN c r tSteps x y 2 ||| onlyN c r (x + 0) (y + 1)) := rfl
      have b1 : stepsN c r tSteps x y 2 < 2 ^ 16 := steps_lt c1 r1 _
      have b2 := only_lt (c := c) (r := r) (x := x + 0) (y := y + 1) c1 r1
      generalize hM1 : stepsN c r tSteps x y 3 = M1 at *
      have HM1 := Lib.hid hM1
      clear hM1
      have HA : Hid (∀ u, Calls Tryd.prog 71 #[.agg #[.int .i64 x, .int .i64 y], .agg #[.int .i64 0, .int .i64 1]] u fun e w' => e = .returned (.agg #[.int .i64 (x + 0), .int .i64 (y + 1)]) ∧ Below u.heap.size u w') := fun u => spotAfter_any _ _ _ _ (by omega) (by omega) u
      have HO : Hid (∀ u, Calls Tryd.prog 60 #[.agg #[.int .i64 c, .int .i64 r], .agg #[.int .i64 (x + 0), .int .i64 (y + 1)]] u fun e w' => e = .returned (.int .u64 (onlyN c r (x + 0) (y + 1) : Nat)) ∧ Below u.heap.size u w') := fun u => only_any _ _ _ _ c1 r1 u
      have D0 : StepAt w (wr.alloc (.cells #[.int .i64 0, .int .i64 1] 68)) w.heap.size (w.heap.size + 1) wr.heap.size c r x y 0 1 := B.step _
      clear B
      generalize onlyN c r (x + 0) (y + 1) = o at *
      generalize stepsN c r tSteps x y 2 = m at *
      have wo : Go.bits .or .u64 (m : Int) (o : Int) = ((m ||| o : Nat) : Int) := or_u (by omega) (by omega)
      rw [← HS.out] at wo
      generalize hx2 : x + 0 = x2 at *
      generalize hy2 : y + 1 = y2 at *
      clear hx2 hy2 HS
      have hix : ∀ v : World, (Instr.index 84 (.agg #[.int .i64 1, .int .i64 0, .int .i64 (-1), .int .i64 0, .int .i64 0, .int .i64 1, .int .i64 (-1), .int .i64 1, .int .i64 0, .int .i64 (-1), .int .i64 1, .int .i64 (-1)]) (.int .i64 2)).run Tryd.prog v = .ok (.agg #[.int .i64 0, .int .i64 1]) v := fun v => by kernel_rfl
      go_wp2_with fail
      refine wp_region_class (StepAt w · w.heap.size (w.heap.size + 1) wr.heap.size c r x y 0 1) (by kernel_rfl) (by kernel_rfl) D0.drew ?_
      intro X hX f hf hex
      have k0 : ∀ z, (f z).cell? ⟨w.heap.size, 0, none⟩ = some (.int .i64 c) := fun z => (hf z).a0
      have k1 : ∀ z, (f z).cell? ⟨w.heap.size, 1, none⟩ = some (.int .i64 r) := fun z => (hf z).a1
      have k2 : ∀ z, (f z).cell? ⟨w.heap.size + 1, 0, none⟩ = some (.int .i64 x) := fun z => (hf z).s0
      have k3 : ∀ z, (f z).cell? ⟨w.heap.size + 1, 1, none⟩ = some (.int .i64 y) := fun z => (hf z).s1
      have k4 : ∀ z, (f z).cell? ⟨wr.heap.size, 0, none⟩ = some (.int .i64 0) := fun z => (hf z).d0
      have k5 : ∀ z, (f z).cell? ⟨wr.heap.size, 1, none⟩ = some (.int .i64 1) := fun z => (hf z).d1
      repeat (go_big_quiet_step (first
        | (go_at_call 71; with_reducible exact class_of hex (HA.out _) (hf _).on)
        | (go_at_call 60; with_reducible exact class_of hex (HO.out _) (hf _).on)))
      refine wpQuiet_nil ?_
      rintro _ ⟨z, rfl⟩
      have DX := (hf z).spot
      clear hex k0 k1 k2 k3 k4 k5 D0
      generalize f z = u at *
      clear hf f
      go_wp2_with fail
      go_roundw
      case rel => exact ⟨3, by omega, rfl, by rw [HM1.out], DX⟩
      case measure => simp [intOf]
    | 3, _ =>
      have HS : Hid (stepsN c r tSteps x y 4 = stepsN c r tSteps x y 3 ||| onlyN c r (x + (-1)) (y + 1)) := rfl
      have b1 : stepsN c r tSteps x y 3 < 2 ^ 16 := steps_lt c1 r1 _
      have b2 := only_lt (c := c) (r := r) (x := x + (-1)) (y := y + 1) c1 r1
      generalize hM1 : stepsN c r tSteps x y 4 = M1 at *
      have HM1 := Lib.hid hM1
      clear hM1
      have HA : Hid (∀ u, Calls Tryd.prog 71 #[.agg #[.int .i64 x, .int .i64 y], .agg #[.int .i64 (-1), .int .i64 1]] u fun e w' => e = .returned (.agg #[.int .i64 (x + (-1)), .int .i64 (y + 1)]) ∧ Below u.heap.size u w') := fun u => spotAfter_any _ _ _ _ (by omega) (by omega) u
      have HO : Hid (∀ u, Calls Tryd.prog 60 #[.agg #[.int .i64 c, .int .i64 r], .agg #[.int .i64 (x + (-1)), .int .i64 (y + 1)]] u fun e w' => e = .returned (.int .u64 (onlyN c r (x + (-1)) (y + 1) : Nat)) ∧ Below u.heap.size u w') := fun u => only_any _ _ _ _ c1 r1 u
      have D0 : StepAt w (wr.alloc (.cells #[.int .i64 (-1), .int .i64 1] 68)) w.heap.size (w.heap.size + 1) wr.heap.size c r x y (-1) 1 := B.step _
      clear B
      generalize onlyN c r (x + (-1)) (y + 1) = o at *
      generalize stepsN c r tSteps x y 3 = m at *
      have wo : Go.bits .or .u64 (m : Int) (o : Int) = ((m ||| o : Nat) : Int) := or_u (by omega) (by omega)
      rw [← HS.out] at wo
      generalize hx2 : x + (-1) = x2 at *
      generalize hy2 : y + 1 = y2 at *
      clear hx2 hy2 HS
      have hix : ∀ v : World, (Instr.index 84 (.agg #[.int .i64 1, .int .i64 0, .int .i64 (-1), .int .i64 0, .int .i64 0, .int .i64 1, .int .i64 (-1), .int .i64 1, .int .i64 0, .int .i64 (-1), .int .i64 1, .int .i64 (-1)]) (.int .i64 3)).run Tryd.prog v = .ok (.agg #[.int .i64 (-1), .int .i64 1]) v := fun v => by kernel_rfl
      go_wp2_with fail
      refine wp_region_class (StepAt w · w.heap.size (w.heap.size + 1) wr.heap.size c r x y (-1) 1) (by kernel_rfl) (by kernel_rfl) D0.drew ?_
      intro X hX f hf hex
      have k0 : ∀ z, (f z).cell? ⟨w.heap.size, 0, none⟩ = some (.int .i64 c) := fun z => (hf z).a0
      have k1 : ∀ z, (f z).cell? ⟨w.heap.size, 1, none⟩ = some (.int .i64 r) := fun z => (hf z).a1
      have k2 : ∀ z, (f z).cell? ⟨w.heap.size + 1, 0, none⟩ = some (.int .i64 x) := fun z => (hf z).s0
      have k3 : ∀ z, (f z).cell? ⟨w.heap.size + 1, 1, none⟩ = some (.int .i64 y) := fun z => (hf z).s1
      have k4 : ∀ z, (f z).cell? ⟨wr.heap.size, 0, none⟩ = some (.int .i64 (-1)) := fun z => (hf z).d0
      have k5 : ∀ z, (f z).cell? ⟨wr.heap.size, 1, none⟩ = some (.int .i64 1) := fun z => (hf z).d1
      repeat (go_big_quiet_step (first
        | (go_at_call 71; with_reducible exact class_of hex (HA.out _) (hf _).on)
        | (go_at_call 60; with_reducible exact class_of hex (HO.out _) (hf _).on)))
      refine wpQuiet_nil ?_
      rintro _ ⟨z, rfl⟩
      have DX := (hf z).spot
      clear hex k0 k1 k2 k3 k4 k5 D0
      generalize f z = u at *
      clear hf f
      go_wp2_with fail
      go_roundw
      case rel => exact ⟨4, by omega, rfl, by rw [HM1.out], DX⟩
      case measure => simp [intOf]
    | 4, _ =>
      have HS : Hid (stepsN c r tSteps x y 5 = stepsN c r tSteps x y 4 ||| onlyN c r (x + 0) (y + (-1))) := rfl
      have b1 : stepsN c r tSteps x y 4 < 2 ^ 16 := steps_lt c1 r1 _
      have b2 := only_lt (c := c) (r := r) (x := x + 0) (y := y + (-1)) c1 r1
      generalize hM1 : stepsN c r tSteps x y 5 = M1 at *
      have HM1 := Lib.hid hM1
      clear hM1
      have HA : Hid (∀ u, Calls Tryd.prog 71 #[.agg #[.int .i64 x, .int .i64 y], .agg #[.int .i64 0, .int .i64 (-1)]] u fun e w' => e = .returned (.agg #[.int .i64 (x + 0), .int .i64 (y + (-1))]) ∧ Below u.heap.size u w') := fun u => spotAfter_any _ _ _ _ (by omega) (by omega) u
      have HO : Hid (∀ u, Calls Tryd.prog 60 #[.agg #[.int .i64 c, .int .i64 r], .agg #[.int .i64 (x + 0), .int .i64 (y + (-1))]] u fun e w' => e = .returned (.int .u64 (onlyN c r (x + 0) (y + (-1)) : Nat)) ∧ Below u.heap.size u w') := fun u => only_any _ _ _ _ c1 r1 u
      have D0 : StepAt w (wr.alloc (.cells #[.int .i64 0, .int .i64 (-1)] 68)) w.heap.size (w.heap.size + 1) wr.heap.size c r x y 0 (-1) := B.step _
      clear B
      generalize onlyN c r (x + 0) (y + (-1)) = o at *
      generalize stepsN c r tSteps x y 4 = m at *
      have wo : Go.bits .or .u64 (m : Int) (o : Int) = ((m ||| o : Nat) : Int) := or_u (by omega) (by omega)
      rw [← HS.out] at wo
      generalize hx2 : x + 0 = x2 at *
      generalize hy2 : y + (-1) = y2 at *
      clear hx2 hy2 HS
      have hix : ∀ v : World, (Instr.index 84 (.agg #[.int .i64 1, .int .i64 0, .int .i64 (-1), .int .i64 0, .int .i64 0, .int .i64 1, .int .i64 (-1), .int .i64 1, .int .i64 0, .int .i64 (-1), .int .i64 1, .int .i64 (-1)]) (.int .i64 4)).run Tryd.prog v = .ok (.agg #[.int .i64 0, .int .i64 (-1)]) v := fun v => by kernel_rfl
      go_wp2_with fail
      refine wp_region_class (StepAt w · w.heap.size (w.heap.size + 1) wr.heap.size c r x y 0 (-1)) (by kernel_rfl) (by kernel_rfl) D0.drew ?_
      intro X hX f hf hex
      have k0 : ∀ z, (f z).cell? ⟨w.heap.size, 0, none⟩ = some (.int .i64 c) := fun z => (hf z).a0
      have k1 : ∀ z, (f z).cell? ⟨w.heap.size, 1, none⟩ = some (.int .i64 r) := fun z => (hf z).a1
      have k2 : ∀ z, (f z).cell? ⟨w.heap.size + 1, 0, none⟩ = some (.int .i64 x) := fun z => (hf z).s0
      have k3 : ∀ z, (f z).cell? ⟨w.heap.size + 1, 1, none⟩ = some (.int .i64 y) := fun z => (hf z).s1
      have k4 : ∀ z, (f z).cell? ⟨wr.heap.size, 0, none⟩ = some (.int .i64 0) := fun z => (hf z).d0
      have k5 : ∀ z, (f z).cell? ⟨wr.heap.size, 1, none⟩ = some (.int .i64 (-1)) := fun z => (hf z).d1
      repeat (go_big_quiet_step (first
        | (go_at_call 71; with_reducible exact class_of hex (HA.out _) (hf _).on)
        | (go_at_call 60; with_reducible exact class_of hex (HO.out _) (hf _).on)))
      refine wpQuiet_nil ?_
      rintro _ ⟨z, rfl⟩
      have DX := (hf z).spot
      clear hex k0 k1 k2 k3 k4 k5 D0
      generalize f z = u at *
      clear hf f
      go_wp2_with fail
      go_roundw
      case rel => exact ⟨5, by omega, rfl, by rw [HM1.out], DX⟩
      case measure => simp [intOf]
    | 5, _ =>
      have HS : Hid (stepsN c r tSteps x y 6 = stepsN c r tSteps x y 5 ||| onlyN c r (x + 1) (y + (-1))) := rfl
      have b1 : stepsN c r tSteps x y 5 < 2 ^ 16 := steps_lt c1 r1 _
      have b2 := only_lt (c := c) (r := r) (x := x + 1) (y := y + (-1)) c1 r1
      generalize hM1 : stepsN c r tSteps x y 6 = M1 at *
      have HM1 := Lib.hid hM1
      clear hM1
      have HA : Hid (∀ u, Calls Tryd.prog 71 #[.agg #[.int .i64 x, .int .i64 y], .agg #[.int .i64 1, .int .i64 (-1)]] u fun e w' => e = .returned (.agg #[.int .i64 (x + 1), .int .i64 (y + (-1))]) ∧ Below u.heap.size u w') := fun u => spotAfter_any _ _ _ _ (by omega) (by omega) u
      have HO : Hid (∀ u, Calls Tryd.prog 60 #[.agg #[.int .i64 c, .int .i64 r], .agg #[.int .i64 (x + 1), .int .i64 (y + (-1))]] u fun e w' => e = .returned (.int .u64 (onlyN c r (x + 1) (y + (-1)) : Nat)) ∧ Below u.heap.size u w') := fun u => only_any _ _ _ _ c1 r1 u
      have D0 : StepAt w (wr.alloc (.cells #[.int .i64 1, .int .i64 (-1)] 68)) w.heap.size (w.heap.size + 1) wr.heap.size c r x y 1 (-1) := B.step _
      clear B
      generalize onlyN c r (x + 1) (y + (-1)) = o at *
      generalize stepsN c r tSteps x y 5 = m at *
      have wo : Go.bits .or .u64 (m : Int) (o : Int) = ((m ||| o : Nat) : Int) := or_u (by omega) (by omega)
      rw [← HS.out] at wo
      generalize hx2 : x + 1 = x2 at *
      generalize hy2 : y + (-1) = y2 at *
      clear hx2 hy2 HS
      have hix : ∀ v : World, (Instr.index 84 (.agg #[.int .i64 1, .int .i64 0, .int .i64 (-1), .int .i64 0, .int .i64 0, .int .i64 1, .int .i64 (-1), .int .i64 1, .int .i64 0, .int .i64 (-1), .int .i64 1, .int .i64 (-1)]) (.int .i64 5)).run Tryd.prog v = .ok (.agg #[.int .i64 1, .int .i64 (-1)]) v := fun v => by kernel_rfl
      go_wp2_with fail
      refine wp_region_class (StepAt w · w.heap.size (w.heap.size + 1) wr.heap.size c r x y 1 (-1)) (by kernel_rfl) (by kernel_rfl) D0.drew ?_
      intro X hX f hf hex
      have k0 : ∀ z, (f z).cell? ⟨w.heap.size, 0, none⟩ = some (.int .i64 c) := fun z => (hf z).a0
      have k1 : ∀ z, (f z).cell? ⟨w.heap.size, 1, none⟩ = some (.int .i64 r) := fun z => (hf z).a1
      have k2 : ∀ z, (f z).cell? ⟨w.heap.size + 1, 0, none⟩ = some (.int .i64 x) := fun z => (hf z).s0
      have k3 : ∀ z, (f z).cell? ⟨w.heap.size + 1, 1, none⟩ = some (.int .i64 y) := fun z => (hf z).s1
      have k4 : ∀ z, (f z).cell? ⟨wr.heap.size, 0, none⟩ = some (.int .i64 1) := fun z => (hf z).d0
      have k5 : ∀ z, (f z).cell? ⟨wr.heap.size, 1, none⟩ = some (.int .i64 (-1)) := fun z => (hf z).d1
      repeat (go_big_quiet_step (first
        | (go_at_call 71; with_reducible exact class_of hex (HA.out _) (hf _).on)
        | (go_at_call 60; with_reducible exact class_of hex (HO.out _) (hf _).on)))
      refine wpQuiet_nil ?_
      rintro _ ⟨z, rfl⟩
      have DX := (hf z).spot
      clear hex k0 k1 k2 k3 k4 k5 D0
      generalize f z = u at *
      clear hf f
      go_wp2_with fail
      go_roundw
      case rel => exact ⟨6, by omega, rfl, by rw [HM1.out], DX⟩
      case measure => simp [intOf]
    | 6, _ =>
      go_wp2_with fail
      go_returns
      exact ⟨rfl, B.below⟩
end Go.Proofs.YtcmomghlepmogaaDoor
