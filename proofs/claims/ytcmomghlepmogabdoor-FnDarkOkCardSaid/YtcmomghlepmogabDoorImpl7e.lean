/- Boards of the program: TouchOk, and what leads across. -/
import Derived.Test.YtcmomghlepmogabDoorImpl7d
import Derived.Test.YtcmomghlepmogabDoorSets
namespace Go.Proofs.YtcmomghlepmogabDoor
open Go.RowKit
set_option maxRecDepth 100000

theorem touch_lt : ∀ c, c < 5 → ∀ r, r < 4 → ∀ a, a < c * r → stepsN c r tSteps (a % c : Nat) (a / c : Nat) 6 < 2 ^ (c * r) := by decide +kernel
theorem touch_at {c r a b : Nat} (hc : c < 5) (hr : r < 4) (ha : a < c * r) (hb : b < c * r) : (stepsN c r tSteps (a % c : Nat) (a / c : Nat) 6).testBit b = touchN c a b := by
  have h12 : c * r ≤ 4 * 3 := Nat.mul_le_mul (by omega) (by omega)
  rw [(touch_mask c hc r hr a ha).2 b (by omega)]; simp [hb]

/-- The class of an area of the call's own, with the tables. -/
structure BoardAt (w u : World) (b0 c r : Nat) : Prop where
  area : AreaAt w u b0 c r
  laid : LaidT u
theorem BoardAt.on {w u : World} {b0 c r : Nat} (h : BoardAt w u b0 c r) : ∀ w', Below u.heap.size u w' → BoardAt w w' b0 c r := fun _ hb => ⟨h.area.step hb, h.laid.on hb⟩
theorem BoardAt.drew {w u : World} {b0 c r : Nat} (h : BoardAt w u b0 c r) : BoardAt w u.drew b0 c r := h.on _ ((Below.refl _ _).drew)

set_option maxHeartbeats 2000000 in
theorem touchOk_any (a b c r : Int) (w : World) (hL : LaidT w) : Calls Tryd.prog 12 #[.int .i64 a, .int .i64 b, .int .i64 c, .int .i64 r] w fun e w' => e = .returned (.bool (touchI a b c r)) ∧ Below w.heap.size w w' := by
  unfold touchI
  cases hA : (boardB c r && inB a (c * r)) with
  | false =>
    have HA := Lib.hid hA
    rw [← Bool.and_assoc, hA]
    clear hA
    go_enter Tryd.func12, Tryd.ntmps12
    go_wp2_with fail
    refine (cellOk_any _ _ _ _).mono ?_
    rintro e1 w1 ⟨rfl, hb1⟩
    rw [HA.out]
    go_wp2_with fail
    go_returns
    exact ⟨rfl, hb1⟩
  | true =>
    have HA := Lib.hid hA
    rw [Bool.and_eq_true] at hA
    obtain ⟨h1, h2⟩ := hA
    rw [h1, h2]
    cases h3 : inB b (c * r) with
    | false =>
      have HB : Hid ((boardB c r && inB b (c * r)) = false) := by rw [Hid, h1, h3]; rfl
      clear h1 h2 h3
      go_enter Tryd.func12, Tryd.ntmps12
      go_wp2_with fail
      refine (cellOk_any _ _ _ _).mono ?_
      rintro e1 w1 ⟨rfl, hb1⟩
      rw [HA.out]
      go_wp2_with fail
      refine (cellOk_any _ _ _ _).mono ?_
      rintro e2 w2 ⟨rfl, hb2⟩
      rw [HB.out]
      have hb3 := hb1.trans (hb2.mono hb1.size)
      go_wp2_with fail
      go_returns
      exact ⟨rfl, hb3⟩
    | true =>
      have HB : Hid ((boardB c r && inB b (c * r)) = true) := by rw [Hid, h1, h3]; rfl
      obtain ⟨C, R, rfl, rfl, hc, hr⟩ := board_nat h1
      rw [show ((C : Nat) : Int) * ((R : Nat) : Int) = ((C * R : Nat) : Int) by rw [Int.natCast_mul]] at h2 h3
      obtain ⟨A', rfl, hA'⟩ := inB_nat h2
      obtain ⟨B', rfl, hB'⟩ := inB_nat h3
      have h12 : C * R ≤ 12 := Nat.mul_le_mul hc.2 hr.2
      have hv := touch_at (show C < 5 by omega) (show R < 4 by omega) hA' hB'
      have hlt := touch_lt C (by omega) R (by omega) A' hA'
      have hm : A' % C ≤ A' := Nat.mod_le _ _
      have hd : A' / C ≤ A' := Nat.div_le_self _ _
      have hp : 2 ^ (C * R) ≤ 2 ^ 12 := Nat.pow_le_pow_right (by omega) h12
      have HT : Hid (∀ u, LaidT u → Calls Tryd.prog 29 #[.agg #[.int .i64 C, .int .i64 R], .agg #[.int .i64 (A' % C : Nat), .int .i64 (A' / C : Nat)]] u fun e w' => e = .returned (.int .u64 (stepsN C R tSteps (A' % C : Nat) (A' / C : Nat) 6 : Nat)) ∧ Below u.heap.size u w') := fun u hu => touching_any C R _ _ hc hr ⟨Int.natCast_nonneg _, by omega⟩ ⟨Int.natCast_nonneg _, by omega⟩ u hu
      have HS : Hid (∀ u, Calls Tryd.prog 30 #[.agg #[.int .i64 C, .int .i64 R], .int .i64 A'] u fun e w' => e = .returned (.agg #[.int .i64 (A' % C : Nat), .int .i64 (A' / C : Nat)]) ∧ Below u.heap.size u w') := fun u => spotOf_any C R A' hc (by omega) u
      have HH : Hid (∀ u, Calls Tryd.prog 31 #[.int .u64 (stepsN C R tSteps (A' % C : Nat) (A' / C : Nat) 6 : Nat), .int .i64 B'] u fun e w' => e = .returned (.bool (touchN C A' B')) ∧ Below u.heap.size u w') := fun u => by
        rw [← hv]; exact hasU_any _ _ (by omega) (by omega) u
      rw [show ((C : Nat) : Int).toNat = C from rfl, show ((A' : Nat) : Int).toNat = A' from rfl, show ((B' : Nat) : Int).toNat = B' from rfl]
      clear h1 h2 h3 hv hlt hp hA' hB' hm hd h12
      generalize stepsN C R tSteps (A' % C : Nat) (A' / C : Nat) 6 = M at *
      generalize A' % C = x at *
      generalize A' / C = y at *
      generalize touchN C A' B' = v at *
      go_enter Tryd.func12, Tryd.ntmps12
      go_wp2_with fail
      refine (cellOk_any _ _ _ _).mono ?_
      rintro e1 w1 ⟨rfl, hb1⟩
      rw [HA.out]
      go_wp2_with fail
      refine (cellOk_any _ _ _ _).mono ?_
      rintro e2 w2 ⟨rfl, hb2⟩
      rw [HB.out]
      have hb3 := hb1.trans (hb2.mono hb1.size)
      have D0 : BoardAt w2 (w2.alloc (.cells #[.int .i64 C, .int .i64 R] 40)) w2.heap.size C R := ⟨AreaAt.start w2 C R _, (hL.on hb3).on ((Below.refl _ _).alloc (by simp) _)⟩
      clear hb1 hb2
      go_wp2_with fail
      refine wp_region_class (BoardAt w2 · w2.heap.size C R) (by kernel_rfl) (by kernel_rfl) D0.drew ?_
      intro X hX f hf hex
      have k0 : ∀ z, (f z).cell? ⟨w2.heap.size, 0, none⟩ = some (.int .i64 C) := fun z => (hf z).area.a0
      have k1 : ∀ z, (f z).cell? ⟨w2.heap.size, 1, none⟩ = some (.int .i64 R) := fun z => (hf z).area.a1
      repeat (go_big_quiet_step (first
        | (go_at_call 30; with_reducible exact class_of hex (HS.out _) (hf _).on)
        | (go_at_call 29; with_reducible exact class_of hex (HT.out _ (hf _).laid) (hf _).on)
        | (go_at_call 31; with_reducible exact class_of hex (HH.out _) (hf _).on)))
      refine wpQuiet_nil ?_
      rintro _ ⟨z, rfl⟩
      have DX := hf z
      go_wp2_with fail
      go_returns
      exact ⟨retB (by simp), hb3.trans (DX.area.below.mono hb3.size)⟩

/-- What the next cells of a walk are told by: the area, the cells, one cell. -/
structure CellsAt (w u : World) (b0 b1 b2 c r K : Nat) (x y : Int) : Prop where
  a0 : u.cell? ⟨b0, 0, none⟩ = some (.int .i64 c)
  a1 : u.cell? ⟨b0, 1, none⟩ = some (.int .i64 r)
  k0 : u.cell? ⟨b1, 0, none⟩ = some (.int .u64 K)
  s0 : u.cell? ⟨b2, 0, none⟩ = some (.int .i64 x)
  s1 : u.cell? ⟨b2, 1, none⟩ = some (.int .i64 y)
  l0 : b0 < u.heap.size
  l1 : b1 < u.heap.size
  l2 : b2 < u.heap.size
  below : Below w.heap.size w u
  laid : LaidT u
theorem CellsAt.on {w u : World} {b0 b1 b2 c r K : Nat} {x y : Int} (h : CellsAt w u b0 b1 b2 c r K x y) : ∀ w', Below u.heap.size u w' → CellsAt w w' b0 b1 b2 c r K x y := fun _ hb =>
  ⟨(hb.cell h.l0).trans h.a0, (hb.cell h.l0).trans h.a1, (hb.cell h.l1).trans h.k0, (hb.cell h.l2).trans h.s0, (hb.cell h.l2).trans h.s1,
    Nat.lt_of_lt_of_le h.l0 hb.size, Nat.lt_of_lt_of_le h.l1 hb.size, Nat.lt_of_lt_of_le h.l2 hb.size, h.below.trans (hb.mono h.below.size), h.laid.on hb⟩
theorem CellsAt.drew {w u : World} {b0 b1 b2 c r K : Nat} {x y : Int} (h : CellsAt w u b0 b1 b2 c r K x y) : CellsAt w u.drew b0 b1 b2 c r K x y := h.on _ ((Below.refl _ _).drew)

set_option maxHeartbeats 2000000 in
theorem cellsNext_any (c r K b0 b1 : Nat) (x y : Int) (hc : 1 ≤ c ∧ c ≤ 4) (hr : 1 ≤ r ∧ r ≤ 3) (hx : 0 ≤ x ∧ x ≤ 12) (hy : 0 ≤ y ∧ y ≤ 12) (hK : K < 2 ^ 64) (w : World) (hL : LaidT w)
    (a0 : w.cell? ⟨b0, 0, none⟩ = some (.int .i64 c)) (a1 : w.cell? ⟨b0, 1, none⟩ = some (.int .i64 r)) (k0 : w.cell? ⟨b1, 0, none⟩ = some (.int .u64 K)) (l0 : b0 < w.heap.size) (l1 : b1 < w.heap.size) :
    Calls Tryd.prog 51 #[.agg #[.int .i64 x, .int .i64 y], .pointer (some ⟨b0, 0, none⟩), .pointer (some ⟨b1, 0, none⟩)] w fun e w' => e = .returned (.int .u64 (stepsN c r tSteps x y 6 &&& K : Nat)) ∧ Below w.heap.size w w' := by
  have B := (Below.refl w.heap.size w).alloc (by simp) (.cells #[.int .i64 x, .int .i64 y] 45)
  have D0 : CellsAt w (w.alloc (.cells #[.int .i64 x, .int .i64 y] 45)) b0 b1 w.heap.size c r K x y :=
    ⟨(B.cell l0).trans a0, (B.cell l0).trans a1, (B.cell l1).trans k0, by rw [World.cell?_alloc_at _ _ _ _ (by simp)]; rfl, by rw [World.cell?_alloc_at _ _ _ _ (by simp)]; rfl, by simp; omega, by simp; omega, by simp, B, hL.on B⟩
  have b1' : stepsN c r tSteps x y 6 < 2 ^ 16 := steps_lt hc.2 (by omega) _
  have HT : Hid (∀ u, LaidT u → Calls Tryd.prog 29 #[.agg #[.int .i64 c, .int .i64 r], .agg #[.int .i64 x, .int .i64 y]] u fun e w' => e = .returned (.int .u64 (stepsN c r tSteps x y 6 : Nat)) ∧ Below u.heap.size u w') := fun u hu => touching_any c r _ _ hc hr hx hy u hu
  generalize stepsN c r tSteps x y 6 = M at *
  have wa : Go.bits .and .u64 (M : Int) (K : Int) = ((M &&& K : Nat) : Int) := and_u (by omega) hK
  clear a0 a1 k0 B hL hx hy
  go_enter Tryd.func51, Tryd.ntmps51
  go_wp2_with fail
  refine wp_region_class (CellsAt w · b0 b1 w.heap.size c r K x y) (by kernel_rfl) (by kernel_rfl) D0.drew ?_
  intro X hX f hf hex
  have k0 : ∀ z, (f z).cell? ⟨b0, 0, none⟩ = some (.int .i64 c) := fun z => (hf z).a0
  have k1 : ∀ z, (f z).cell? ⟨b0, 1, none⟩ = some (.int .i64 r) := fun z => (hf z).a1
  have k2 : ∀ z, (f z).cell? ⟨b1, 0, none⟩ = some (.int .u64 K) := fun z => (hf z).k0
  have k3 : ∀ z, (f z).cell? ⟨w.heap.size, 0, none⟩ = some (.int .i64 x) := fun z => (hf z).s0
  have k4 : ∀ z, (f z).cell? ⟨w.heap.size, 1, none⟩ = some (.int .i64 y) := fun z => (hf z).s1
  repeat (go_big_quiet_step (first
    | (go_at_call 29; with_reducible exact class_of hex (HT.out _ (hf _).laid) (hf _).on)))
  refine wpQuiet_nil ?_
  rintro _ ⟨z, rfl⟩
  have DX := hf z
  go_wp2_with fail
  go_returns
  exact ⟨by first | rfl | simp [wa], DX.below⟩
end Go.Proofs.YtcmomghlepmogabDoor
