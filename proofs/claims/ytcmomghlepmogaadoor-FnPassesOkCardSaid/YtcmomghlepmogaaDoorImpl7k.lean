/- Grids of the program: edges in rows and columns, and between two spots. -/
import Derived.Test.YtcmomghlepmogaaDoorImpl7b
import Derived.Test.YtcmomghlepmogaaDoorImpl7c
import Derived.Test.YtcmomghlepmogaaDoorSides7
import Derived.Test.YtcmomghlepmogaaDoorSpec7g
import Derived.Test.YtcmomghlepmogaaDoorSets
namespace Go.Proofs.YtcmomghlepmogaaDoor
open Go.RowKit
set_option maxRecDepth 100000

theorem SpotAt.on {w u : World} {b0 b1 c r : Nat} {x y : Int} (h : SpotAt w u b0 b1 c r x y) : ∀ w', Below u.heap.size u w' → SpotAt w w' b0 b1 c r x y := fun _ hb =>
  ⟨(hb.cell h.l0).trans h.a0, (hb.cell h.l0).trans h.a1, (hb.cell h.l1).trans h.s0, (hb.cell h.l1).trans h.s1, Nat.lt_of_lt_of_le h.l0 hb.size, Nat.lt_of_lt_of_le h.l1 hb.size, h.below.trans (hb.mono h.below.size)⟩
theorem SpotAt.drew {w u : World} {b0 b1 c r : Nat} {x y : Int} (h : SpotAt w u b0 b1 c r x y) : SpotAt w u.drew b0 b1 c r x y := h.on _ ((Below.refl _ _).drew)
theorem AreaAt.drew {w u : World} {b0 c r : Nat} (h : AreaAt w u b0 c r) : AreaAt w u.drew b0 c r := h.step ((Below.refl _ _).drew)

theorem inRows_any (w h : Nat) (hw : 1 ≤ w ∧ w ≤ 4) (hh : h ≤ 3) (v : World) :
    Calls Tryd.prog 72 #[.agg #[.int .i64 w, .int .i64 h]] v fun e w' => e = .returned (.int .i64 (h * (w - 1) : Nat)) ∧ Below v.heap.size v w' := by
  have hm : h * (w - 1) ≤ 3 * 3 := Nat.mul_le_mul hh (by omega)
  have w1 : IntKind.i64.wrap ((w : Int) - 1) = ((w - 1 : Nat) : Int) := by rw [IntWalk.i64_in _ (by omega)]; omega
  have w2 : IntKind.i64.wrap ((h : Int) * ((w - 1 : Nat) : Int)) = ((h * (w - 1) : Nat) : Int) := by rw [← Int.natCast_mul]; exact IntWalk.i64_in _ (by omega)
  generalize h * (w - 1) = m at *
  generalize w - 1 = k at *
  clear hm
  go_enter Tryd.func72, Tryd.ntmps72
  go_wp2_with fail
  go_returns
  exact ⟨by first | rfl | simp [*], by go_grown⟩
theorem rowEdge_any (w h x y : Nat) (hw : 1 ≤ w ∧ w ≤ 4) (hx : x ≤ 4) (hy : y ≤ 3) (v : World) :
    Calls Tryd.prog 61 #[.agg #[.int .i64 w, .int .i64 h], .agg #[.int .i64 x, .int .i64 y]] v fun e w' => e = .returned (.int .u64 (setO (some (y * (w - 1) + x)) : Nat)) ∧ Below v.heap.size v w' := by
  have hm : y * (w - 1) ≤ 3 * 3 := Nat.mul_le_mul hy (by omega)
  have w1 : IntKind.i64.wrap ((w : Int) - 1) = ((w - 1 : Nat) : Int) := by rw [IntWalk.i64_in _ (by omega)]; omega
  have w2 : IntKind.i64.wrap ((y : Int) * ((w - 1 : Nat) : Int)) = ((y * (w - 1) : Nat) : Int) := by rw [← Int.natCast_mul]; exact IntWalk.i64_in _ (by omega)
  have w3 : IntKind.i64.wrap (((y * (w - 1) : Nat) : Int) + (x : Int)) = ((y * (w - 1) + x : Nat) : Int) := by rw [← Int.natCast_add]; exact IntWalk.i64_in _ (by omega)
  have hs := shl_small (y * (w - 1) + x) (by omega)
  have hk : y * (w - 1) + x ≤ 15 := by omega
  unfold setO
  generalize y * (w - 1) + x = k2 at *
  generalize y * (w - 1) = m at *
  generalize w - 1 = k at *
  clear hm hx hy
  go_enter Tryd.func61, Tryd.ntmps61
  go_wp2_with fail
  go_returns
  exact ⟨by first | rfl | simp [*], by go_grown⟩

set_option maxHeartbeats 2000000 in
theorem columnEdge_any (w h x y : Nat) (hw : 2 ≤ w ∧ w ≤ 4) (hh : h ≤ 3) (hx : x < w) (hy : y ≤ 2) (v : World) :
    Calls Tryd.prog 62 #[.agg #[.int .i64 w, .int .i64 h], .agg #[.int .i64 x, .int .i64 y]] v fun e w' => e = .returned (.int .u64 (setO (colO w h x y) : Nat)) ∧ Below v.heap.size v w' := by
  have S0 := SpotAt.start v w h x y 40 68
  have w1 : IntKind.i64.wrap ((w : Int) - 1) = (w : Int) - 1 := IntWalk.i64_in _ (by omega)
  have hwt : IntKind.i64.wrap ((w : Int) - 2) = ((w - 2 : Nat) : Int) := by rw [IntWalk.i64_in _ (by omega)]; omega
  by_cases hend : x = 0 ∨ x + 1 = w
  · have HV : Hid (setO (colO w h x y) = 0) := by rw [Hid]; unfold colO; rw [if_pos hend]; rfl
    rw [HV.out]
    obtain ⟨c0, c1, c2, c3, -, -, hb⟩ := S0
    by_cases h0 : x < 1
    · have t0 : ((x : Int) == 0) = true := by rw [beq_iff_eq]; omega
      clear hend h0
      go_enter Tryd.func62, Tryd.ntmps62
      go_wp2_with fail
      go_returns
      exact ⟨rfl, hb⟩
    · have t0 : ((x : Int) == 0) = false := by rw [beq_eq_false_iff_ne]; omega
      have t1 : ((x : Int) == (w : Int) - 1) = true := by rw [beq_iff_eq]; omega
      clear hend h0
      go_enter Tryd.func62, Tryd.ntmps62
      go_wp2_with fail
      go_returns
      exact ⟨rfl, hb⟩
  · have HV : Hid (setO (colO w h x y) = 2 ^ (h * (w - 1) + y * (w - 2) + x - 1)) := by rw [Hid]; unfold colO; rw [if_neg hend]; rfl
    rw [HV.out]
    have t0 : ((x : Int) == 0) = false := by rw [beq_eq_false_iff_ne]; omega
    have t1 : ((x : Int) == (w : Int) - 1) = false := by rw [beq_eq_false_iff_ne]; omega
    have m1 : h * (w - 1) ≤ 3 * 3 := Nat.mul_le_mul hh (by omega)
    have m2 : y * (w - 2) ≤ 2 * 2 := Nat.mul_le_mul hy (by omega)
    have hx2 : x ≤ 2 := by omega
    have HE : Hid (∀ u, Calls Tryd.prog 72 #[.agg #[.int .i64 w, .int .i64 h]] u fun e w' => e = .returned (.int .i64 (h * (w - 1) : Nat)) ∧ Below u.heap.size u w') := fun u => inRows_any w h (by omega) hh u
    have a1 : IntKind.i64.wrap ((y : Int) * ((w - 2 : Nat) : Int)) = ((y * (w - 2) : Nat) : Int) := by rw [← Int.natCast_mul]; exact IntWalk.i64_in _ (by omega)
    have a2 : IntKind.i64.wrap (((h * (w - 1) : Nat) : Int) + ((y * (w - 2) : Nat) : Int)) = ((h * (w - 1) + y * (w - 2) : Nat) : Int) := by rw [← Int.natCast_add]; exact IntWalk.i64_in _ (by omega)
    have a3 : IntKind.i64.wrap (((h * (w - 1) + y * (w - 2) : Nat) : Int) + (x : Int)) = ((h * (w - 1) + y * (w - 2) + x : Nat) : Int) := by rw [← Int.natCast_add]; exact IntWalk.i64_in _ (by omega)
    have a4 : IntKind.i64.wrap (((h * (w - 1) + y * (w - 2) + x : Nat) : Int) - 1) = ((h * (w - 1) + y * (w - 2) + x - 1 : Nat) : Int) := by rw [IntWalk.i64_in _ (by omega)]; omega
    have hk : h * (w - 1) + y * (w - 2) + x - 1 ≤ 15 := by omega
    have hs := shl_small _ hk
    generalize h * (w - 1) + y * (w - 2) + x - 1 = e4 at *
    generalize h * (w - 1) + y * (w - 2) + x = e3 at *
    generalize h * (w - 1) + y * (w - 2) = e2 at *
    generalize h * (w - 1) = e1 at *
    generalize y * (w - 2) = e0 at *
    generalize w - 2 = k at *
    clear hend m1 m2
    obtain ⟨c0, c1, c2, c3, -, -, -⟩ := id S0
    go_enter Tryd.func62, Tryd.ntmps62
    go_wp2_with fail
    refine wp_region_class (SpotAt v · v.heap.size (v.heap.size + 1) w h x y) (by kernel_rfl) (by kernel_rfl) S0.drew ?_
    intro X hX f hf hex
    have k0 : ∀ z, (f z).cell? ⟨v.heap.size, 0, none⟩ = some (.int .i64 w) := fun z => (hf z).a0
    have k1 : ∀ z, (f z).cell? ⟨v.heap.size, 1, none⟩ = some (.int .i64 h) := fun z => (hf z).a1
    have k2 : ∀ z, (f z).cell? ⟨v.heap.size + 1, 0, none⟩ = some (.int .i64 x) := fun z => (hf z).s0
    have k3 : ∀ z, (f z).cell? ⟨v.heap.size + 1, 1, none⟩ = some (.int .i64 y) := fun z => (hf z).s1
    repeat (go_big_quiet_step (first
      | (go_at_call 72; with_reducible exact class_of hex (HE.out _) (hf _).on)))
    refine wpQuiet_nil ?_
    rintro _ ⟨z, rfl⟩
    have DX := hf z
    go_wp2_with fail
    go_returns
    exact ⟨by first | rfl | simp [hs], DX.below⟩

set_option maxHeartbeats 1000000 in
theorem gridEdgesOf_any (w h : Nat) (hw : 2 ≤ w ∧ w ≤ 4) (hh : 1 ≤ h ∧ h ≤ 3) (v : World) :
    Calls Tryd.prog 65 #[.agg #[.int .i64 w, .int .i64 h]] v fun e w' => e = .returned (.int .i64 (gridE w h : Nat)) ∧ Below v.heap.size v w' := by
  have A0 := AreaAt.start v w h 40
  have m1 : h * (w - 1) ≤ 3 * 3 := Nat.mul_le_mul hh.2 (by omega)
  have m2 : (h - 1) * (w - 2) ≤ 2 * 2 := Nat.mul_le_mul (by omega) (by omega)
  have HE : Hid (∀ u, Calls Tryd.prog 72 #[.agg #[.int .i64 w, .int .i64 h]] u fun e w' => e = .returned (.int .i64 (h * (w - 1) : Nat)) ∧ Below u.heap.size u w') := fun u => inRows_any w h (by omega) hh.2 u
  have hg : gridE w h = h * (w - 1) + (h - 1) * (w - 2) := by unfold gridE; rw [Nat.mul_comm (w - 1), Nat.mul_comm (w - 2)]
  rw [hg]
  have b1 : IntKind.i64.wrap ((h : Int) - 1) = ((h - 1 : Nat) : Int) := by rw [IntWalk.i64_in _ (by omega)]; omega
  have b2 : IntKind.i64.wrap ((w : Int) - 2) = ((w - 2 : Nat) : Int) := by rw [IntWalk.i64_in _ (by omega)]; omega
  have a1 : IntKind.i64.wrap (((h - 1 : Nat) : Int) * ((w - 2 : Nat) : Int)) = (((h - 1) * (w - 2) : Nat) : Int) := by rw [← Int.natCast_mul]; exact IntWalk.i64_in _ (by omega)
  have a2 : IntKind.i64.wrap (((h * (w - 1) : Nat) : Int) + (((h - 1) * (w - 2) : Nat) : Int)) = ((h * (w - 1) + (h - 1) * (w - 2) : Nat) : Int) := by rw [← Int.natCast_add]; exact IntWalk.i64_in _ (by omega)
  generalize h * (w - 1) + (h - 1) * (w - 2) = e2 at *
  generalize h * (w - 1) = e1 at *
  generalize (h - 1) * (w - 2) = e0 at *
  generalize w - 2 = k at *
  generalize h - 1 = j at *
  clear m1 m2 hg
  obtain ⟨c0, c1, -, -⟩ := id A0
  go_enter Tryd.func65, Tryd.ntmps65
  go_wp2_with fail
  refine wp_region_class (AreaAt v · v.heap.size w h) (by kernel_rfl) (by kernel_rfl) A0.drew ?_
  intro X hX f hf hex
  have k0 : ∀ z, (f z).cell? ⟨v.heap.size, 0, none⟩ = some (.int .i64 w) := fun z => (hf z).a0
  have k1 : ∀ z, (f z).cell? ⟨v.heap.size, 1, none⟩ = some (.int .i64 h) := fun z => (hf z).a1
  repeat (go_big_quiet_step (first
    | (go_at_call 72; with_reducible exact class_of hex (HE.out _) (fun _ hb => (hf _).step hb))))
  refine wpQuiet_nil ?_
  rintro _ ⟨z, rfl⟩
  have DX := hf z
  go_wp2_with fail
  go_returns
  exact ⟨by first | rfl | simp, DX.below⟩
theorem points_any (w h : Nat) (v : World) :
    Calls Tryd.prog 33 #[.agg #[.int .i64 w, .int .i64 h]] v fun e w' => e = .returned (.agg #[.int .i64 w, .int .i64 h]) ∧ Below v.heap.size v w' := by
  go_enter Tryd.func33, Tryd.ntmps33
  go_wp2_with fail
  go_returns
  exact ⟨by first | rfl | simp, by go_grown⟩
theorem fields_any (w h : Nat) (hw : 1 ≤ w ∧ w ≤ 4) (hh : h ≤ 3) (v : World) :
    Calls Tryd.prog 42 #[.agg #[.int .i64 w, .int .i64 h]] v fun e w' => e = .returned (.agg #[.int .i64 (w - 1 : Nat), .int .i64 (h + 1 : Nat)]) ∧ Below v.heap.size v w' := by
  have b1 : IntKind.i64.wrap ((w : Int) - 1) = ((w - 1 : Nat) : Int) := by rw [IntWalk.i64_in _ (by omega)]; omega
  have b2 : IntKind.i64.wrap ((h : Int) + 1) = ((h + 1 : Nat) : Int) := by rw [IntWalk.i64_in _ (by omega)]; omega
  generalize w - 1 = k at *
  generalize h + 1 = j at *
  go_enter Tryd.func42, Tryd.ntmps42
  go_wp2_with fail
  go_returns
  exact ⟨by first | rfl | simp [*], by go_grown⟩
end Go.Proofs.YtcmomghlepmogaaDoor

/- Grids of the program: the edge between two points, and between two fields. -/
namespace Go.Proofs.YtcmomghlepmogaaDoor
open Go.RowKit
set_option linter.unusedVariables false
set_option maxRecDepth 100000

/-- Three pairs in cells of the call's own. -/
theorem three_cells (v : World) (a b c d e f : Int) (T T1 T2 : TypeId) : ∀ u, u = ((v.alloc (.cells #[.int .i64 a, .int .i64 b] T)).alloc (.cells #[.int .i64 c, .int .i64 d] T1)).alloc (.cells #[.int .i64 e, .int .i64 f] T2) →
    (u.cell? ⟨v.heap.size, 0, none⟩ = some (.int .i64 a) ∧ u.cell? ⟨v.heap.size, 1, none⟩ = some (.int .i64 b)) ∧ (u.cell? ⟨v.heap.size + 1, 0, none⟩ = some (.int .i64 c) ∧ u.cell? ⟨v.heap.size + 1, 1, none⟩ = some (.int .i64 d)) ∧
    (u.cell? ⟨v.heap.size + 1 + 1, 0, none⟩ = some (.int .i64 e) ∧ u.cell? ⟨v.heap.size + 1 + 1, 1, none⟩ = some (.int .i64 f)) ∧ Below v.heap.size v u := by
  rintro u rfl
  refine ⟨⟨?_, ?_⟩, ⟨?_, ?_⟩, ⟨?_, ?_⟩, (((Below.refl _ _).alloc (by simp) _).alloc (by simp) _).alloc (by simp; omega) _⟩
  · rw [World.cell?_alloc_past _ _ _ (by simp; omega), World.cell?_alloc_past _ _ _ (by simp), World.cell?_alloc_at _ _ _ _ (by simp)]; rfl
  · rw [World.cell?_alloc_past _ _ _ (by simp; omega), World.cell?_alloc_past _ _ _ (by simp), World.cell?_alloc_at _ _ _ _ (by simp)]; rfl
  · rw [World.cell?_alloc_past _ _ _ (by simp), World.cell?_alloc_at _ _ _ _ (by simp)]; rfl
  · rw [World.cell?_alloc_past _ _ _ (by simp), World.cell?_alloc_at _ _ _ _ (by simp)]; rfl
  · rw [World.cell?_alloc_at _ _ _ _ (by simp)]; rfl
  · rw [World.cell?_alloc_at _ _ _ _ (by simp)]; rfl

set_option maxHeartbeats 2000000 in
theorem betweenPoints_any (w h x y x' y' : Nat) (hw : 2 ≤ w ∧ w ≤ 4) (hh : 1 ≤ h ∧ h ≤ 3) (hx : x < w) (hy : y < h) (hx' : x' < w) (hy' : y' < h) (v : World) :
    Calls Tryd.prog 36 #[.agg #[.int .i64 w, .int .i64 h], .agg #[.int .i64 x, .int .i64 y], .agg #[.int .i64 x', .int .i64 y']] v fun e w' => e = .returned (.int .u64 (setO (ptO w h x y (x' : Nat) (y' : Nat)) : Nat)) ∧ Below v.heap.size v w' := by
  obtain ⟨⟨c0, c1⟩, ⟨c2, c3⟩, ⟨c4, c5⟩, hb⟩ := three_cells v w h x y x' y' 40 68 68 _ rfl
  unfold ptO
  rw [show ((x' : Nat) : Int).toNat = x' from rfl, show ((y' : Nat) : Int).toNat = y' from rfl]
  by_cases he : y = y'
  · rw [if_pos he]
    have t0 : ((y : Int) == (y' : Int)) = true := by rw [beq_iff_eq]; omega
    clear he
    by_cases hlt : x' < x
    · rw [Nat.min_eq_right (Nat.le_of_lt hlt)]
      have HE : Hid (∀ u, Calls Tryd.prog 61 #[.agg #[.int .i64 w, .int .i64 h], .agg #[.int .i64 x', .int .i64 y]] u fun e w' => e = .returned (.int .u64 (setO (some (y * (w - 1) + x')) : Nat)) ∧ Below u.heap.size u w') := fun u => rowEdge_any w h x' y (by omega) (by omega) (by omega) u
      generalize setO (some (y * (w - 1) + x')) = R at *
      go_enter Tryd.func36, Tryd.ntmps36
      go_wp2_with fail
      refine (HE.out _).mono ?_
      rintro e1 w1 ⟨rfl, hb1⟩
      go_wp2_with fail
      go_returns
      exact ⟨rfl, hb.trans (hb1.mono hb.size)⟩
    · rw [Nat.min_eq_left (Nat.le_of_not_lt hlt)]
      have HE : Hid (∀ u, Calls Tryd.prog 61 #[.agg #[.int .i64 w, .int .i64 h], .agg #[.int .i64 x, .int .i64 y]] u fun e w' => e = .returned (.int .u64 (setO (some (y * (w - 1) + x)) : Nat)) ∧ Below u.heap.size u w') := fun u => rowEdge_any w h x y (by omega) (by omega) (by omega) u
      generalize setO (some (y * (w - 1) + x)) = R at *
      go_enter Tryd.func36, Tryd.ntmps36
      go_wp2_with fail
      refine (HE.out _).mono ?_
      rintro e1 w1 ⟨rfl, hb1⟩
      go_wp2_with fail
      go_returns
      exact ⟨rfl, hb.trans (hb1.mono hb.size)⟩
  · rw [if_neg he]
    have t0 : ((y : Int) == (y' : Int)) = false := by rw [beq_eq_false_iff_ne]; omega
    by_cases hlt : y' < y
    · rw [Nat.min_eq_right (Nat.le_of_lt hlt)]
      have HE : Hid (∀ u, Calls Tryd.prog 62 #[.agg #[.int .i64 w, .int .i64 h], .agg #[.int .i64 x, .int .i64 y']] u fun e w' => e = .returned (.int .u64 (setO (colO w h x y') : Nat)) ∧ Below u.heap.size u w') := fun u => columnEdge_any w h x y' (by omega) (by omega) (by omega) (by omega) u
      generalize setO (colO w h x y') = R at *
      clear he
      go_enter Tryd.func36, Tryd.ntmps36
      go_wp2_with fail
      refine (HE.out _).mono ?_
      rintro e1 w1 ⟨rfl, hb1⟩
      go_wp2_with fail
      go_returns
      exact ⟨rfl, hb.trans (hb1.mono hb.size)⟩
    · rw [Nat.min_eq_left (Nat.le_of_not_lt hlt)]
      have HE : Hid (∀ u, Calls Tryd.prog 62 #[.agg #[.int .i64 w, .int .i64 h], .agg #[.int .i64 x, .int .i64 y]] u fun e w' => e = .returned (.int .u64 (setO (colO w h x y) : Nat)) ∧ Below u.heap.size u w') := fun u => columnEdge_any w h x y (by omega) (by omega) (by omega) (by omega) u
      generalize setO (colO w h x y) = R at *
      clear he
      go_enter Tryd.func36, Tryd.ntmps36
      go_wp2_with fail
      refine (HE.out _).mono ?_
      rintro e1 w1 ⟨rfl, hb1⟩
      go_wp2_with fail
      go_returns
      exact ⟨rfl, hb.trans (hb1.mono hb.size)⟩

set_option maxHeartbeats 2000000 in
theorem betweenFields_any (w h x y x' y' : Nat) (hw : 2 ≤ w ∧ w ≤ 4) (hh : 1 ≤ h ∧ h ≤ 3) (hx : x < w - 1) (hy : y < h + 1) (hx' : x' < w - 1) (hy' : y' < h + 1) (v : World) :
    Calls Tryd.prog 44 #[.agg #[.int .i64 w, .int .i64 h], .agg #[.int .i64 x, .int .i64 y], .agg #[.int .i64 x', .int .i64 y']] v fun e w' => e = .returned (.int .u64 (setO (fdO w h x y (x' : Nat) (y' : Nat)) : Nat)) ∧ Below v.heap.size v w' := by
  obtain ⟨⟨c0, c1⟩, ⟨c2, c3⟩, ⟨c4, c5⟩, hb⟩ := three_cells v w h x y x' y' 40 68 68 _ rfl
  unfold fdO
  rw [show ((x' : Nat) : Int).toNat = x' from rfl, show ((y' : Nat) : Int).toNat = y' from rfl]
  by_cases he : x = x'
  · rw [if_pos he]
    have t0 : ((x : Int) == (x' : Int)) = true := by rw [beq_iff_eq]; omega
    clear he
    by_cases hlt : y' < y
    · rw [Nat.min_eq_right (Nat.le_of_lt hlt)]
      have HE : Hid (∀ u, Calls Tryd.prog 61 #[.agg #[.int .i64 w, .int .i64 h], .agg #[.int .i64 x, .int .i64 y']] u fun e w' => e = .returned (.int .u64 (setO (some (y' * (w - 1) + x)) : Nat)) ∧ Below u.heap.size u w') := fun u => rowEdge_any w h x y' (by omega) (by omega) (by omega) u
      generalize setO (some (y' * (w - 1) + x)) = R at *
      go_enter Tryd.func44, Tryd.ntmps44
      go_wp2_with fail
      refine (HE.out _).mono ?_
      rintro e1 w1 ⟨rfl, hb1⟩
      go_wp2_with fail
      go_returns
      exact ⟨rfl, hb.trans (hb1.mono hb.size)⟩
    · rw [Nat.min_eq_left (Nat.le_of_not_lt hlt)]
      have HE : Hid (∀ u, Calls Tryd.prog 61 #[.agg #[.int .i64 w, .int .i64 h], .agg #[.int .i64 x, .int .i64 y]] u fun e w' => e = .returned (.int .u64 (setO (some (y * (w - 1) + x)) : Nat)) ∧ Below u.heap.size u w') := fun u => rowEdge_any w h x y (by omega) (by omega) (by omega) u
      generalize setO (some (y * (w - 1) + x)) = R at *
      go_enter Tryd.func44, Tryd.ntmps44
      go_wp2_with fail
      refine (HE.out _).mono ?_
      rintro e1 w1 ⟨rfl, hb1⟩
      go_wp2_with fail
      go_returns
      exact ⟨rfl, hb.trans (hb1.mono hb.size)⟩
  · rw [if_neg he]
    have t0 : ((x : Int) == (x' : Int)) = false := by rw [beq_eq_false_iff_ne]; omega
    by_cases h0 : y < 1
    · have t1 : ((y : Int) == 0) = true := by rw [beq_iff_eq]; omega
      rw [if_pos (by omega)]
      show Calls _ _ _ _ (fun e w' => e = .returned (.int .u64 (0 : Nat)) ∧ _)
      clear he h0
      go_enter Tryd.func44, Tryd.ntmps44
      go_wp2_with fail
      go_returns
      exact ⟨rfl, hb⟩
    · have t1 : ((y : Int) == 0) = false := by rw [beq_eq_false_iff_ne]; omega
      by_cases h1 : h < y + 1
      · have t2 : ((y : Int) == (h : Int)) = true := by rw [beq_iff_eq]; omega
        rw [if_pos (by omega)]
        show Calls _ _ _ _ (fun e w' => e = .returned (.int .u64 (0 : Nat)) ∧ _)
        clear he h0 h1
        go_enter Tryd.func44, Tryd.ntmps44
        go_wp2_with fail
        go_returns
        exact ⟨rfl, hb⟩
      · have t2 : ((y : Int) == (h : Int)) = false := by rw [beq_eq_false_iff_ne]; omega
        rw [if_neg (by omega)]
        have wy : IntKind.i64.wrap ((y : Int) - 1) = ((y - 1 : Nat) : Int) := by rw [IntWalk.i64_in _ (by omega)]; omega
        by_cases hlt : x < x'
        · rw [Nat.max_eq_right (Nat.le_of_lt hlt)]
          have HE : Hid (∀ u, Calls Tryd.prog 62 #[.agg #[.int .i64 w, .int .i64 h], .agg #[.int .i64 x', .int .i64 (y - 1 : Nat)]] u fun e w' => e = .returned (.int .u64 (setO (colO w h x' (y - 1 : Nat)) : Nat)) ∧ Below u.heap.size u w') := fun u => columnEdge_any w h x' (y - 1) (by omega) (by omega) (by omega) (by omega) u
          generalize setO (colO w h x' (y - 1 : Nat)) = R at *
          generalize y - 1 = y1 at *
          clear he h0 h1
          go_enter Tryd.func44, Tryd.ntmps44
          go_wp2_with fail
          refine (HE.out _).mono ?_
          rintro e1 w1 ⟨rfl, hb1⟩
          go_wp2_with fail
          go_returns
          exact ⟨rfl, hb.trans (hb1.mono hb.size)⟩
        · rw [Nat.max_eq_left (Nat.le_of_not_lt hlt)]
          have HE : Hid (∀ u, Calls Tryd.prog 62 #[.agg #[.int .i64 w, .int .i64 h], .agg #[.int .i64 x, .int .i64 (y - 1 : Nat)]] u fun e w' => e = .returned (.int .u64 (setO (colO w h x (y - 1 : Nat)) : Nat)) ∧ Below u.heap.size u w') := fun u => columnEdge_any w h x (y - 1) (by omega) (by omega) (by omega) (by omega) u
          generalize setO (colO w h x (y - 1 : Nat)) = R at *
          generalize y - 1 = y1 at *
          clear he h0 h1
          go_enter Tryd.func44, Tryd.ntmps44
          go_wp2_with fail
          refine (HE.out _).mono ?_
          rintro e1 w1 ⟨rfl, hb1⟩
          go_wp2_with fail
          go_returns
          exact ⟨rfl, hb.trans (hb1.mono hb.size)⟩
end Go.Proofs.YtcmomghlepmogaaDoor

/- Grids of the program: what open edges lead to. -/
namespace Go.Proofs.YtcmomghlepmogaaDoor
open Go.RowKit
set_option linter.unusedVariables false
set_option maxRecDepth 100000

theorem StepAt.cells {w u : World} {b0 b1 b2 c r : Nat} {x y dx dy : Int} (h : StepAt w u b0 b1 b2 c r x y dx dy) : (u.cell? ⟨b0, 0, none⟩ = some (.int .i64 c) ∧ u.cell? ⟨b0, 1, none⟩ = some (.int .i64 r)) ∧ (u.cell? ⟨b1, 0, none⟩ = some (.int .i64 x) ∧ u.cell? ⟨b1, 1, none⟩ = some (.int .i64 y)) ∧ u.cell? ⟨b2, 0, none⟩ = some (.int .i64 dx) ∧ u.cell? ⟨b2, 1, none⟩ = some (.int .i64 dy) := ⟨⟨h.a0, h.a1⟩, ⟨h.s0, h.s1⟩, h.d0, h.d1⟩
theorem sideN_lt16 {c r : Nat} {O : Int → Int → Option Nat} {K : Nat} {ps : List (Int × Int)} {x y : Int} (hc : c ≤ 4) (hr : r ≤ 4) (k : Nat) : sideN c r O K ps x y k < 2 ^ 16 :=
  Nat.lt_of_lt_of_le (side_lt k) (Nat.pow_le_pow_right (by omega) (show c * r ≤ 4 * 4 from Nat.mul_le_mul hc hr))

set_option maxHeartbeats 8000000 in
theorem openSidesP_any (W H c r : Nat) (x y : Int) (K : Nat) (O : Int → Int → Option Nat) (hc : 1 ≤ c ∧ c ≤ 4) (hr : 1 ≤ r ∧ r ≤ 4) (hx : 0 ≤ x ∧ x ≤ 12) (hy : 0 ≤ y ∧ y ≤ 12) (hK : K < 2 ^ 64) (hOb : ∀ x' y' : Nat, x' < c → y' < r → setO (O (x' : Nat) (y' : Nat)) < 2 ^ 64) (w : World) (hL : LaidS w)
    (HB : ∀ x' y' : Nat, x' < c → y' < r → ∀ u, Calls Tryd.prog 36 #[.agg #[.int .i64 W, .int .i64 H], .agg #[.int .i64 x, .int .i64 y], .agg #[.int .i64 x', .int .i64 y']] u fun e w' => e = .returned (.int .u64 (setO (O (x' : Nat) (y' : Nat)) : Nat)) ∧ Below u.heap.size u w') :
    Calls Tryd.prog 59 #[.agg #[.int .i64 c, .int .i64 r], .agg #[.int .i64 x, .int .i64 y], .int .u64 K, .func (.func 36) #[.agg #[.int .i64 W, .int .i64 H]] #[]] w fun e w' => e = .returned (.int .u64 (sideN c r O K sSteps x y 4 : Nat)) ∧ Below w.heap.size w w' := by
  have hL2 : LaidS ((w.alloc (.cells #[.int .i64 c, .int .i64 r] 42)).alloc (.cells #[.int .i64 x, .int .i64 y] 68)) := hL.on (((Below.refl _ _).alloc (by simp) _).alloc (by simp) _)
  have B2 : SpotAt w ((w.alloc (.cells #[.int .i64 c, .int .i64 r] 42)).alloc (.cells #[.int .i64 x, .int .i64 y] 68)) w.heap.size (w.heap.size + 1) c r x y := SpotAt.start w c r x y _ _
  have g0 : ((w.alloc (.cells #[.int .i64 c, .int .i64 r] 42)).alloc (.cells #[.int .i64 x, .int .i64 y] 68)).cell? ⟨0, 0, none⟩ = some (.int .i64 1) := hL2.2 0 (by decide)
  have g1 : ((w.alloc (.cells #[.int .i64 c, .int .i64 r] 42)).alloc (.cells #[.int .i64 x, .int .i64 y] 68)).cell? ⟨0, 1, none⟩ = some (.int .i64 0) := hL2.2 1 (by decide)
  have g2 : ((w.alloc (.cells #[.int .i64 c, .int .i64 r] 42)).alloc (.cells #[.int .i64 x, .int .i64 y] 68)).cell? ⟨0, 2, none⟩ = some (.int .i64 (-1)) := hL2.2 2 (by decide)
  have g3 : ((w.alloc (.cells #[.int .i64 c, .int .i64 r] 42)).alloc (.cells #[.int .i64 x, .int .i64 y] 68)).cell? ⟨0, 3, none⟩ = some (.int .i64 0) := hL2.2 3 (by decide)
  have g4 : ((w.alloc (.cells #[.int .i64 c, .int .i64 r] 42)).alloc (.cells #[.int .i64 x, .int .i64 y] 68)).cell? ⟨0, 4, none⟩ = some (.int .i64 0) := hL2.2 4 (by decide)
  have g5 : ((w.alloc (.cells #[.int .i64 c, .int .i64 r] 42)).alloc (.cells #[.int .i64 x, .int .i64 y] 68)).cell? ⟨0, 5, none⟩ = some (.int .i64 1) := hL2.2 5 (by decide)
  have g6 : ((w.alloc (.cells #[.int .i64 c, .int .i64 r] 42)).alloc (.cells #[.int .i64 x, .int .i64 y] 68)).cell? ⟨0, 6, none⟩ = some (.int .i64 0) := hL2.2 6 (by decide)
  have g7 : ((w.alloc (.cells #[.int .i64 c, .int .i64 r] 42)).alloc (.cells #[.int .i64 x, .int .i64 y] 68)).cell? ⟨0, 7, none⟩ = some (.int .i64 (-1)) := hL2.2 7 (by decide)
  have lg := hL.1
  clear hL hL2
  go_enter Tryd.func59, Tryd.ntmps59
  go_wp2_with fail
  go_loopw [9, 15] (fun m k wr => ∃ K0 : Nat, K0 ≤ 4 ∧ k = .int .i64 (K0 : Nat) ∧ m = .int .u64 (sideN c r O K sSteps x y K0 : Nat) ∧ SpotAt w wr w.heap.size (w.heap.size + 1) c r x y) (fun _ k _ => 4 - (intOf k).toNat)
  case atStart => exact ⟨0, by omega, rfl, rfl, B2⟩
  case round =>
    clear B2 g0 g1 g2 g3 g4 g5 g6 g7
    obtain ⟨K0, hK0, rfl, rfl, S0⟩ := hrel
    match K0, hK0 with
    | 0, _ =>
      have HS : Hid (sideN c r O K sSteps x y 1 = sideN c r O K sSteps x y 0 ||| (if hitS c r O K (x + 1) (y + 0) = true then onlyN c r (x + 1) (y + 0) else 0)) := rfl
      have b1 : sideN c r O K sSteps x y 0 < 2 ^ 16 := sideN_lt16 hc.2 hr.2 _
      generalize hM1 : sideN c r O K sSteps x y 1 = M1 at *
      have HM1 := Lib.hid hM1
      clear hM1
      generalize sideN c r O K sSteps x y 0 = m at *
      have HA : Hid (∀ u, Calls Tryd.prog 71 #[.agg #[.int .i64 x, .int .i64 y], .agg #[.int .i64 1, .int .i64 0]] u fun e w' => e = .returned (.agg #[.int .i64 (x + 1), .int .i64 (y + 0)]) ∧ Below u.heap.size u w') := fun u => spotAfter_any _ _ _ _ (by omega) (by omega) u
      have hx2b : -1 ≤ x + 1 ∧ x + 1 ≤ 13 := by omega
      have hy2b : -1 ≤ y + 0 ∧ y + 0 ≤ 13 := by omega
      generalize hx2 : x + 1 = x2 at *
      generalize hy2 : y + 0 = y2 at *
      have S1 := S0.step (dx := 1) (dy := 0) 68
      obtain ⟨⟨c0, c1⟩, ⟨c2, c3⟩, c4, c5⟩ := S1.cells
      have hix : ∀ v : World, (Instr.index 77 (.agg #[.int .i64 1, .int .i64 0, .int .i64 (-1), .int .i64 0, .int .i64 0, .int .i64 1, .int .i64 0, .int .i64 (-1)]) (.int .i64 0)).run Tryd.prog v = .ok (.agg #[.int .i64 1, .int .i64 0]) v := fun v => by kernel_rfl
      clear S0 hx2 hy2
      go_wp2_with fail
      refine (HA.out _).mono ?_
      rintro e1 w1 ⟨rfl, hb1⟩
      have S2 := ((S1.on _ hb1).spot).step (dx := x2) (dy := y2) 68
      clear S1 c0 c1 c2 c3 c4 c5 hb1 hix
      obtain ⟨⟨c0, c1⟩, ⟨c2, c3⟩, c4, c5⟩ := S2.cells
      go_wp2_with fail
      refine (only_any _ _ _ _ hc.2 hr.2 _).mono ?_
      rintro e2 w2 ⟨rfl, hb2⟩
      have S3 := S2.on _ hb2
      clear S2 c0 c1 c2 c3 c4 c5 hb2
      obtain ⟨⟨c0, c1⟩, ⟨c2, c3⟩, c4, c5⟩ := S3.cells
      by_cases hin : 0 ≤ x2 ∧ x2 < c ∧ 0 ≤ y2 ∧ y2 < r
      · have ho : onlyN c r x2 y2 = 2 ^ (y2.toNat * c + x2.toNat) := if_pos hin
        have hne : (((onlyN c r x2 y2 : Nat) : Int) == 0) = false := by
          rw [beq_eq_false_iff_ne, ho]; have := Nat.one_le_two_pow (n := y2.toNat * c + x2.toNat); omega
        have hne2 : ¬ ((onlyN c r x2 y2 : Nat) : Int) = 0 := by
          rw [ho]; have := Nat.one_le_two_pow (n := y2.toNat * c + x2.toNat); omega
        have hne' : (onlyN c r x2 y2 == 0) = false := by
          rw [beq_eq_false_iff_ne, ho]; have := Nat.one_le_two_pow (n := y2.toNat * c + x2.toNat); omega
        obtain ⟨X, rfl⟩ : ∃ X : Nat, x2 = X := ⟨x2.toNat, by omega⟩
        obtain ⟨Y, rfl⟩ : ∃ Y : Nat, y2 = Y := ⟨y2.toNat, by omega⟩
        have HBT := Lib.hid (HB X Y (by omega) (by omega))
        have hH : hitS c r O K (X : Nat) (Y : Nat) = hitO K (O (X : Nat) (Y : Nat)) := by unfold hitS; rw [hne']; rfl
        rw [hH] at HS
        have hA := setO_and (O (X : Nat) (Y : Nat)) K
        have hOl := hOb X Y (by omega) (by omega)
        have b2 := onlyc_lt (c := c) (r := r) (x := (X : Nat)) (y := (Y : Nat)) hc.2 hr.2
        have wa : Go.bits .and .u64 ((setO (O (X : Nat) (Y : Nat)) : Nat) : Int) (K : Int) = ((setO (O (X : Nat) (Y : Nat)) &&& K : Nat) : Int) := and_u (by omega) hK
        have wo : Go.bits .or .u64 (m : Int) ((onlyN c r (X : Nat) (Y : Nat) : Nat) : Int) = ((m ||| onlyN c r (X : Nat) (Y : Nat) : Nat) : Int) := or_u (by omega) (by omega)
        generalize onlyN c r (X : Nat) (Y : Nat) = o at *
        generalize setO (O (X : Nat) (Y : Nat)) &&& K = sk at *
        generalize setO (O (X : Nat) (Y : Nat)) = so at *
        generalize hitO K (O (X : Nat) (Y : Nat)) = ht at *
        clear hin ho hne' hH hOl
        cases ht with
        | true =>
          have hsk : ((sk : Int) == 0) = false := by
            have : (sk == 0) = false := hA
            rw [beq_eq_false_iff_ne] at this ⊢; omega
          rw [if_pos rfl] at HS
          rw [← HS.out] at wo
          clear hA HS
          go_wp2_with fail
          refine (HBT.out _).mono ?_
          rintro e3 w3 ⟨rfl, hb3⟩
          have S4 := (S3.on _ hb3).spot
          go_wp2_with fail
          go_roundw
          case rel => exact ⟨1, by omega, rfl, by rw [HM1.out], S4⟩
          case measure => simp [intOf]
        | false =>
          have hsk : ((sk : Int) == 0) = true := by
            have : (sk == 0) = true := hA
            rw [beq_iff_eq] at this ⊢; omega
          rw [if_neg (by simp), Nat.or_zero] at HS
          clear hA wo
          go_wp2_with fail
          refine (HBT.out _).mono ?_
          rintro e3 w3 ⟨rfl, hb3⟩
          have S4 := (S3.on _ hb3).spot
          go_wp2_with fail
          go_roundw
          case rel => exact ⟨1, by omega, rfl, by rw [HM1.out, HS.out], S4⟩
          case measure => simp [intOf]
      · have ho : onlyN c r x2 y2 = 0 := if_neg hin
        have hH : hitS c r O K x2 y2 = false := by unfold hitS; rw [ho]; rfl
        rw [hH, if_neg (by simp), Nat.or_zero] at HS
        rw [ho]
        have S4 := S3.spot
        clear ho hH hin
        go_wp2_with fail
        go_roundw
        case rel => exact ⟨1, by omega, rfl, by rw [HM1.out, HS.out], S4⟩
        case measure => simp [intOf]
    | 1, _ =>
      have HS : Hid (sideN c r O K sSteps x y 2 = sideN c r O K sSteps x y 1 ||| (if hitS c r O K (x + (-1)) (y + 0) = true then onlyN c r (x + (-1)) (y + 0) else 0)) := rfl
      have b1 : sideN c r O K sSteps x y 1 < 2 ^ 16 := sideN_lt16 hc.2 hr.2 _
      generalize hM1 : sideN c r O K sSteps x y 2 = M1 at *
      have HM1 := Lib.hid hM1
      clear hM1
      generalize sideN c r O K sSteps x y 1 = m at *
      have HA : Hid (∀ u, Calls Tryd.prog 71 #[.agg #[.int .i64 x, .int .i64 y], .agg #[.int .i64 (-1), .int .i64 0]] u fun e w' => e = .returned (.agg #[.int .i64 (x + (-1)), .int .i64 (y + 0)]) ∧ Below u.heap.size u w') := fun u => spotAfter_any _ _ _ _ (by omega) (by omega) u
      have hx2b : -1 ≤ x + (-1) ∧ x + (-1) ≤ 13 := by omega
      have hy2b : -1 ≤ y + 0 ∧ y + 0 ≤ 13 := by omega
      generalize hx2 : x + (-1) = x2 at *
      generalize hy2 : y + 0 = y2 at *
      have S1 := S0.step (dx := (-1)) (dy := 0) 68
      obtain ⟨⟨c0, c1⟩, ⟨c2, c3⟩, c4, c5⟩ := S1.cells
      have hix : ∀ v : World, (Instr.index 77 (.agg #[.int .i64 1, .int .i64 0, .int .i64 (-1), .int .i64 0, .int .i64 0, .int .i64 1, .int .i64 0, .int .i64 (-1)]) (.int .i64 1)).run Tryd.prog v = .ok (.agg #[.int .i64 (-1), .int .i64 0]) v := fun v => by kernel_rfl
      clear S0 hx2 hy2
      go_wp2_with fail
      refine (HA.out _).mono ?_
      rintro e1 w1 ⟨rfl, hb1⟩
      have S2 := ((S1.on _ hb1).spot).step (dx := x2) (dy := y2) 68
      clear S1 c0 c1 c2 c3 c4 c5 hb1 hix
      obtain ⟨⟨c0, c1⟩, ⟨c2, c3⟩, c4, c5⟩ := S2.cells
      go_wp2_with fail
      refine (only_any _ _ _ _ hc.2 hr.2 _).mono ?_
      rintro e2 w2 ⟨rfl, hb2⟩
      have S3 := S2.on _ hb2
      clear S2 c0 c1 c2 c3 c4 c5 hb2
      obtain ⟨⟨c0, c1⟩, ⟨c2, c3⟩, c4, c5⟩ := S3.cells
      by_cases hin : 0 ≤ x2 ∧ x2 < c ∧ 0 ≤ y2 ∧ y2 < r
      · have ho : onlyN c r x2 y2 = 2 ^ (y2.toNat * c + x2.toNat) := if_pos hin
        have hne : (((onlyN c r x2 y2 : Nat) : Int) == 0) = false := by
          rw [beq_eq_false_iff_ne, ho]; have := Nat.one_le_two_pow (n := y2.toNat * c + x2.toNat); omega
        have hne2 : ¬ ((onlyN c r x2 y2 : Nat) : Int) = 0 := by
          rw [ho]; have := Nat.one_le_two_pow (n := y2.toNat * c + x2.toNat); omega
        have hne' : (onlyN c r x2 y2 == 0) = false := by
          rw [beq_eq_false_iff_ne, ho]; have := Nat.one_le_two_pow (n := y2.toNat * c + x2.toNat); omega
        obtain ⟨X, rfl⟩ : ∃ X : Nat, x2 = X := ⟨x2.toNat, by omega⟩
        obtain ⟨Y, rfl⟩ : ∃ Y : Nat, y2 = Y := ⟨y2.toNat, by omega⟩
        have HBT := Lib.hid (HB X Y (by omega) (by omega))
        have hH : hitS c r O K (X : Nat) (Y : Nat) = hitO K (O (X : Nat) (Y : Nat)) := by unfold hitS; rw [hne']; rfl
        rw [hH] at HS
        have hA := setO_and (O (X : Nat) (Y : Nat)) K
        have hOl := hOb X Y (by omega) (by omega)
        have b2 := onlyc_lt (c := c) (r := r) (x := (X : Nat)) (y := (Y : Nat)) hc.2 hr.2
        have wa : Go.bits .and .u64 ((setO (O (X : Nat) (Y : Nat)) : Nat) : Int) (K : Int) = ((setO (O (X : Nat) (Y : Nat)) &&& K : Nat) : Int) := and_u (by omega) hK
        have wo : Go.bits .or .u64 (m : Int) ((onlyN c r (X : Nat) (Y : Nat) : Nat) : Int) = ((m ||| onlyN c r (X : Nat) (Y : Nat) : Nat) : Int) := or_u (by omega) (by omega)
        generalize onlyN c r (X : Nat) (Y : Nat) = o at *
        generalize setO (O (X : Nat) (Y : Nat)) &&& K = sk at *
        generalize setO (O (X : Nat) (Y : Nat)) = so at *
        generalize hitO K (O (X : Nat) (Y : Nat)) = ht at *
        clear hin ho hne' hH hOl
        cases ht with
        | true =>
          have hsk : ((sk : Int) == 0) = false := by
            have : (sk == 0) = false := hA
            rw [beq_eq_false_iff_ne] at this ⊢; omega
          rw [if_pos rfl] at HS
          rw [← HS.out] at wo
          clear hA HS
          go_wp2_with fail
          refine (HBT.out _).mono ?_
          rintro e3 w3 ⟨rfl, hb3⟩
          have S4 := (S3.on _ hb3).spot
          go_wp2_with fail
          go_roundw
          case rel => exact ⟨2, by omega, rfl, by rw [HM1.out], S4⟩
          case measure => simp [intOf]
        | false =>
          have hsk : ((sk : Int) == 0) = true := by
            have : (sk == 0) = true := hA
            rw [beq_iff_eq] at this ⊢; omega
          rw [if_neg (by simp), Nat.or_zero] at HS
          clear hA wo
          go_wp2_with fail
          refine (HBT.out _).mono ?_
          rintro e3 w3 ⟨rfl, hb3⟩
          have S4 := (S3.on _ hb3).spot
          go_wp2_with fail
          go_roundw
          case rel => exact ⟨2, by omega, rfl, by rw [HM1.out, HS.out], S4⟩
          case measure => simp [intOf]
      · have ho : onlyN c r x2 y2 = 0 := if_neg hin
        have hH : hitS c r O K x2 y2 = false := by unfold hitS; rw [ho]; rfl
        rw [hH, if_neg (by simp), Nat.or_zero] at HS
        rw [ho]
        have S4 := S3.spot
        clear ho hH hin
        go_wp2_with fail
        go_roundw
        case rel => exact ⟨2, by omega, rfl, by rw [HM1.out, HS.out], S4⟩
        case measure => simp [intOf]
    | 2, _ =>
      have HS : Hid (sideN c r O K sSteps x y 3 = sideN c r O K sSteps x y 2 ||| (if hitS c r O K (x + 0) (y + 1) = true then onlyN c r (x + 0) (y + 1) else 0)) := rfl
      have b1 : sideN c r O K sSteps x y 2 < 2 ^ 16 := sideN_lt16 hc.2 hr.2 _
      generalize hM1 : sideN c r O K sSteps x y 3 = M1 at *
      have HM1 := Lib.hid hM1
      clear hM1
      generalize sideN c r O K sSteps x y 2 = m at *
      have HA : Hid (∀ u, Calls Tryd.prog 71 #[.agg #[.int .i64 x, .int .i64 y], .agg #[.int .i64 0, .int .i64 1]] u fun e w' => e = .returned (.agg #[.int .i64 (x + 0), .int .i64 (y + 1)]) ∧ Below u.heap.size u w') := fun u => spotAfter_any _ _ _ _ (by omega) (by omega) u
      have hx2b : -1 ≤ x + 0 ∧ x + 0 ≤ 13 := by omega
      have hy2b : -1 ≤ y + 1 ∧ y + 1 ≤ 13 := by omega
      generalize hx2 : x + 0 = x2 at *
      generalize hy2 : y + 1 = y2 at *
      have S1 := S0.step (dx := 0) (dy := 1) 68
      obtain ⟨⟨c0, c1⟩, ⟨c2, c3⟩, c4, c5⟩ := S1.cells
      have hix : ∀ v : World, (Instr.index 77 (.agg #[.int .i64 1, .int .i64 0, .int .i64 (-1), .int .i64 0, .int .i64 0, .int .i64 1, .int .i64 0, .int .i64 (-1)]) (.int .i64 2)).run Tryd.prog v = .ok (.agg #[.int .i64 0, .int .i64 1]) v := fun v => by kernel_rfl
      clear S0 hx2 hy2
      go_wp2_with fail
      refine (HA.out _).mono ?_
      rintro e1 w1 ⟨rfl, hb1⟩
      have S2 := ((S1.on _ hb1).spot).step (dx := x2) (dy := y2) 68
      clear S1 c0 c1 c2 c3 c4 c5 hb1 hix
      obtain ⟨⟨c0, c1⟩, ⟨c2, c3⟩, c4, c5⟩ := S2.cells
      go_wp2_with fail
      refine (only_any _ _ _ _ hc.2 hr.2 _).mono ?_
      rintro e2 w2 ⟨rfl, hb2⟩
      have S3 := S2.on _ hb2
      clear S2 c0 c1 c2 c3 c4 c5 hb2
      obtain ⟨⟨c0, c1⟩, ⟨c2, c3⟩, c4, c5⟩ := S3.cells
      by_cases hin : 0 ≤ x2 ∧ x2 < c ∧ 0 ≤ y2 ∧ y2 < r
      · have ho : onlyN c r x2 y2 = 2 ^ (y2.toNat * c + x2.toNat) := if_pos hin
        have hne : (((onlyN c r x2 y2 : Nat) : Int) == 0) = false := by
          rw [beq_eq_false_iff_ne, ho]; have := Nat.one_le_two_pow (n := y2.toNat * c + x2.toNat); omega
        have hne2 : ¬ ((onlyN c r x2 y2 : Nat) : Int) = 0 := by
          rw [ho]; have := Nat.one_le_two_pow (n := y2.toNat * c + x2.toNat); omega
        have hne' : (onlyN c r x2 y2 == 0) = false := by
          rw [beq_eq_false_iff_ne, ho]; have := Nat.one_le_two_pow (n := y2.toNat * c + x2.toNat); omega
        obtain ⟨X, rfl⟩ : ∃ X : Nat, x2 = X := ⟨x2.toNat, by omega⟩
        obtain ⟨Y, rfl⟩ : ∃ Y : Nat, y2 = Y := ⟨y2.toNat, by omega⟩
        have HBT := Lib.hid (HB X Y (by omega) (by omega))
        have hH : hitS c r O K (X : Nat) (Y : Nat) = hitO K (O (X : Nat) (Y : Nat)) := by unfold hitS; rw [hne']; rfl
        rw [hH] at HS
        have hA := setO_and (O (X : Nat) (Y : Nat)) K
        have hOl := hOb X Y (by omega) (by omega)
        have b2 := onlyc_lt (c := c) (r := r) (x := (X : Nat)) (y := (Y : Nat)) hc.2 hr.2
        have wa : Go.bits .and .u64 ((setO (O (X : Nat) (Y : Nat)) : Nat) : Int) (K : Int) = ((setO (O (X : Nat) (Y : Nat)) &&& K : Nat) : Int) := and_u (by omega) hK
        have wo : Go.bits .or .u64 (m : Int) ((onlyN c r (X : Nat) (Y : Nat) : Nat) : Int) = ((m ||| onlyN c r (X : Nat) (Y : Nat) : Nat) : Int) := or_u (by omega) (by omega)
        generalize onlyN c r (X : Nat) (Y : Nat) = o at *
        generalize setO (O (X : Nat) (Y : Nat)) &&& K = sk at *
        generalize setO (O (X : Nat) (Y : Nat)) = so at *
        generalize hitO K (O (X : Nat) (Y : Nat)) = ht at *
        clear hin ho hne' hH hOl
        cases ht with
        | true =>
          have hsk : ((sk : Int) == 0) = false := by
            have : (sk == 0) = false := hA
            rw [beq_eq_false_iff_ne] at this ⊢; omega
          rw [if_pos rfl] at HS
          rw [← HS.out] at wo
          clear hA HS
          go_wp2_with fail
          refine (HBT.out _).mono ?_
          rintro e3 w3 ⟨rfl, hb3⟩
          have S4 := (S3.on _ hb3).spot
          go_wp2_with fail
          go_roundw
          case rel => exact ⟨3, by omega, rfl, by rw [HM1.out], S4⟩
          case measure => simp [intOf]
        | false =>
          have hsk : ((sk : Int) == 0) = true := by
            have : (sk == 0) = true := hA
            rw [beq_iff_eq] at this ⊢; omega
          rw [if_neg (by simp), Nat.or_zero] at HS
          clear hA wo
          go_wp2_with fail
          refine (HBT.out _).mono ?_
          rintro e3 w3 ⟨rfl, hb3⟩
          have S4 := (S3.on _ hb3).spot
          go_wp2_with fail
          go_roundw
          case rel => exact ⟨3, by omega, rfl, by rw [HM1.out, HS.out], S4⟩
          case measure => simp [intOf]
      · have ho : onlyN c r x2 y2 = 0 := if_neg hin
        have hH : hitS c r O K x2 y2 = false := by unfold hitS; rw [ho]; rfl
        rw [hH, if_neg (by simp), Nat.or_zero] at HS
        rw [ho]
        have S4 := S3.spot
        clear ho hH hin
        go_wp2_with fail
        go_roundw
        case rel => exact ⟨3, by omega, rfl, by rw [HM1.out, HS.out], S4⟩
        case measure => simp [intOf]
    | 3, _ =>
      have HS : Hid (sideN c r O K sSteps x y 4 = sideN c r O K sSteps x y 3 ||| (if hitS c r O K (x + 0) (y + (-1)) = true then onlyN c r (x + 0) (y + (-1)) else 0)) := rfl
      have b1 : sideN c r O K sSteps x y 3 < 2 ^ 16 := sideN_lt16 hc.2 hr.2 _
      generalize hM1 : sideN c r O K sSteps x y 4 = M1 at *
      have HM1 := Lib.hid hM1
      clear hM1
      generalize sideN c r O K sSteps x y 3 = m at *
      have HA : Hid (∀ u, Calls Tryd.prog 71 #[.agg #[.int .i64 x, .int .i64 y], .agg #[.int .i64 0, .int .i64 (-1)]] u fun e w' => e = .returned (.agg #[.int .i64 (x + 0), .int .i64 (y + (-1))]) ∧ Below u.heap.size u w') := fun u => spotAfter_any _ _ _ _ (by omega) (by omega) u
      have hx2b : -1 ≤ x + 0 ∧ x + 0 ≤ 13 := by omega
      have hy2b : -1 ≤ y + (-1) ∧ y + (-1) ≤ 13 := by omega
      generalize hx2 : x + 0 = x2 at *
      generalize hy2 : y + (-1) = y2 at *
      have S1 := S0.step (dx := 0) (dy := (-1)) 68
      obtain ⟨⟨c0, c1⟩, ⟨c2, c3⟩, c4, c5⟩ := S1.cells
      have hix : ∀ v : World, (Instr.index 77 (.agg #[.int .i64 1, .int .i64 0, .int .i64 (-1), .int .i64 0, .int .i64 0, .int .i64 1, .int .i64 0, .int .i64 (-1)]) (.int .i64 3)).run Tryd.prog v = .ok (.agg #[.int .i64 0, .int .i64 (-1)]) v := fun v => by kernel_rfl
      clear S0 hx2 hy2
      go_wp2_with fail
      refine (HA.out _).mono ?_
      rintro e1 w1 ⟨rfl, hb1⟩
      have S2 := ((S1.on _ hb1).spot).step (dx := x2) (dy := y2) 68
      clear S1 c0 c1 c2 c3 c4 c5 hb1 hix
      obtain ⟨⟨c0, c1⟩, ⟨c2, c3⟩, c4, c5⟩ := S2.cells
      go_wp2_with fail
      refine (only_any _ _ _ _ hc.2 hr.2 _).mono ?_
      rintro e2 w2 ⟨rfl, hb2⟩
      have S3 := S2.on _ hb2
      clear S2 c0 c1 c2 c3 c4 c5 hb2
      obtain ⟨⟨c0, c1⟩, ⟨c2, c3⟩, c4, c5⟩ := S3.cells
      by_cases hin : 0 ≤ x2 ∧ x2 < c ∧ 0 ≤ y2 ∧ y2 < r
      · have ho : onlyN c r x2 y2 = 2 ^ (y2.toNat * c + x2.toNat) := if_pos hin
        have hne : (((onlyN c r x2 y2 : Nat) : Int) == 0) = false := by
          rw [beq_eq_false_iff_ne, ho]; have := Nat.one_le_two_pow (n := y2.toNat * c + x2.toNat); omega
        have hne2 : ¬ ((onlyN c r x2 y2 : Nat) : Int) = 0 := by
          rw [ho]; have := Nat.one_le_two_pow (n := y2.toNat * c + x2.toNat); omega
        have hne' : (onlyN c r x2 y2 == 0) = false := by
          rw [beq_eq_false_iff_ne, ho]; have := Nat.one_le_two_pow (n := y2.toNat * c + x2.toNat); omega
        obtain ⟨X, rfl⟩ : ∃ X : Nat, x2 = X := ⟨x2.toNat, by omega⟩
        obtain ⟨Y, rfl⟩ : ∃ Y : Nat, y2 = Y := ⟨y2.toNat, by omega⟩
        have HBT := Lib.hid (HB X Y (by omega) (by omega))
        have hH : hitS c r O K (X : Nat) (Y : Nat) = hitO K (O (X : Nat) (Y : Nat)) := by unfold hitS; rw [hne']; rfl
        rw [hH] at HS
        have hA := setO_and (O (X : Nat) (Y : Nat)) K
        have hOl := hOb X Y (by omega) (by omega)
        have b2 := onlyc_lt (c := c) (r := r) (x := (X : Nat)) (y := (Y : Nat)) hc.2 hr.2
        have wa : Go.bits .and .u64 ((setO (O (X : Nat) (Y : Nat)) : Nat) : Int) (K : Int) = ((setO (O (X : Nat) (Y : Nat)) &&& K : Nat) : Int) := and_u (by omega) hK
        have wo : Go.bits .or .u64 (m : Int) ((onlyN c r (X : Nat) (Y : Nat) : Nat) : Int) = ((m ||| onlyN c r (X : Nat) (Y : Nat) : Nat) : Int) := or_u (by omega) (by omega)
        generalize onlyN c r (X : Nat) (Y : Nat) = o at *
        generalize setO (O (X : Nat) (Y : Nat)) &&& K = sk at *
        generalize setO (O (X : Nat) (Y : Nat)) = so at *
        generalize hitO K (O (X : Nat) (Y : Nat)) = ht at *
        clear hin ho hne' hH hOl
        cases ht with
        | true =>
          have hsk : ((sk : Int) == 0) = false := by
            have : (sk == 0) = false := hA
            rw [beq_eq_false_iff_ne] at this ⊢; omega
          rw [if_pos rfl] at HS
          rw [← HS.out] at wo
          clear hA HS
          go_wp2_with fail
          refine (HBT.out _).mono ?_
          rintro e3 w3 ⟨rfl, hb3⟩
          have S4 := (S3.on _ hb3).spot
          go_wp2_with fail
          go_roundw
          case rel => exact ⟨4, by omega, rfl, by rw [HM1.out], S4⟩
          case measure => simp [intOf]
        | false =>
          have hsk : ((sk : Int) == 0) = true := by
            have : (sk == 0) = true := hA
            rw [beq_iff_eq] at this ⊢; omega
          rw [if_neg (by simp), Nat.or_zero] at HS
          clear hA wo
          go_wp2_with fail
          refine (HBT.out _).mono ?_
          rintro e3 w3 ⟨rfl, hb3⟩
          have S4 := (S3.on _ hb3).spot
          go_wp2_with fail
          go_roundw
          case rel => exact ⟨4, by omega, rfl, by rw [HM1.out, HS.out], S4⟩
          case measure => simp [intOf]
      · have ho : onlyN c r x2 y2 = 0 := if_neg hin
        have hH : hitS c r O K x2 y2 = false := by unfold hitS; rw [ho]; rfl
        rw [hH, if_neg (by simp), Nat.or_zero] at HS
        rw [ho]
        have S4 := S3.spot
        clear ho hH hin
        go_wp2_with fail
        go_roundw
        case rel => exact ⟨4, by omega, rfl, by rw [HM1.out, HS.out], S4⟩
        case measure => simp [intOf]
    | 4, _ =>
      go_wp2_with fail
      go_returns
      exact ⟨rfl, S0.below⟩

set_option maxHeartbeats 8000000 in
theorem openSidesF_any (W H c r : Nat) (x y : Int) (K : Nat) (O : Int → Int → Option Nat) (hc : 1 ≤ c ∧ c ≤ 4) (hr : 1 ≤ r ∧ r ≤ 4) (hx : 0 ≤ x ∧ x ≤ 12) (hy : 0 ≤ y ∧ y ≤ 12) (hK : K < 2 ^ 64) (hOb : ∀ x' y' : Nat, x' < c → y' < r → setO (O (x' : Nat) (y' : Nat)) < 2 ^ 64) (w : World) (hL : LaidS w)
    (HB : ∀ x' y' : Nat, x' < c → y' < r → ∀ u, Calls Tryd.prog 44 #[.agg #[.int .i64 W, .int .i64 H], .agg #[.int .i64 x, .int .i64 y], .agg #[.int .i64 x', .int .i64 y']] u fun e w' => e = .returned (.int .u64 (setO (O (x' : Nat) (y' : Nat)) : Nat)) ∧ Below u.heap.size u w') :
    Calls Tryd.prog 59 #[.agg #[.int .i64 c, .int .i64 r], .agg #[.int .i64 x, .int .i64 y], .int .u64 K, .func (.func 44) #[.agg #[.int .i64 W, .int .i64 H]] #[]] w fun e w' => e = .returned (.int .u64 (sideN c r O K sSteps x y 4 : Nat)) ∧ Below w.heap.size w w' := by
  have hL2 : LaidS ((w.alloc (.cells #[.int .i64 c, .int .i64 r] 42)).alloc (.cells #[.int .i64 x, .int .i64 y] 68)) := hL.on (((Below.refl _ _).alloc (by simp) _).alloc (by simp) _)
  have B2 : SpotAt w ((w.alloc (.cells #[.int .i64 c, .int .i64 r] 42)).alloc (.cells #[.int .i64 x, .int .i64 y] 68)) w.heap.size (w.heap.size + 1) c r x y := SpotAt.start w c r x y _ _
  have g0 : ((w.alloc (.cells #[.int .i64 c, .int .i64 r] 42)).alloc (.cells #[.int .i64 x, .int .i64 y] 68)).cell? ⟨0, 0, none⟩ = some (.int .i64 1) := hL2.2 0 (by decide)
  have g1 : ((w.alloc (.cells #[.int .i64 c, .int .i64 r] 42)).alloc (.cells #[.int .i64 x, .int .i64 y] 68)).cell? ⟨0, 1, none⟩ = some (.int .i64 0) := hL2.2 1 (by decide)
  have g2 : ((w.alloc (.cells #[.int .i64 c, .int .i64 r] 42)).alloc (.cells #[.int .i64 x, .int .i64 y] 68)).cell? ⟨0, 2, none⟩ = some (.int .i64 (-1)) := hL2.2 2 (by decide)
  have g3 : ((w.alloc (.cells #[.int .i64 c, .int .i64 r] 42)).alloc (.cells #[.int .i64 x, .int .i64 y] 68)).cell? ⟨0, 3, none⟩ = some (.int .i64 0) := hL2.2 3 (by decide)
  have g4 : ((w.alloc (.cells #[.int .i64 c, .int .i64 r] 42)).alloc (.cells #[.int .i64 x, .int .i64 y] 68)).cell? ⟨0, 4, none⟩ = some (.int .i64 0) := hL2.2 4 (by decide)
  have g5 : ((w.alloc (.cells #[.int .i64 c, .int .i64 r] 42)).alloc (.cells #[.int .i64 x, .int .i64 y] 68)).cell? ⟨0, 5, none⟩ = some (.int .i64 1) := hL2.2 5 (by decide)
  have g6 : ((w.alloc (.cells #[.int .i64 c, .int .i64 r] 42)).alloc (.cells #[.int .i64 x, .int .i64 y] 68)).cell? ⟨0, 6, none⟩ = some (.int .i64 0) := hL2.2 6 (by decide)
  have g7 : ((w.alloc (.cells #[.int .i64 c, .int .i64 r] 42)).alloc (.cells #[.int .i64 x, .int .i64 y] 68)).cell? ⟨0, 7, none⟩ = some (.int .i64 (-1)) := hL2.2 7 (by decide)
  have lg := hL.1
  clear hL hL2
  go_enter Tryd.func59, Tryd.ntmps59
  go_wp2_with fail
  go_loopw [9, 15] (fun m k wr => ∃ K0 : Nat, K0 ≤ 4 ∧ k = .int .i64 (K0 : Nat) ∧ m = .int .u64 (sideN c r O K sSteps x y K0 : Nat) ∧ SpotAt w wr w.heap.size (w.heap.size + 1) c r x y) (fun _ k _ => 4 - (intOf k).toNat)
  case atStart => exact ⟨0, by omega, rfl, rfl, B2⟩
  case round =>
    clear B2 g0 g1 g2 g3 g4 g5 g6 g7
    obtain ⟨K0, hK0, rfl, rfl, S0⟩ := hrel
    match K0, hK0 with
    | 0, _ =>
      have HS : Hid (sideN c r O K sSteps x y 1 = sideN c r O K sSteps x y 0 ||| (if hitS c r O K (x + 1) (y + 0) = true then onlyN c r (x + 1) (y + 0) else 0)) := rfl
      have b1 : sideN c r O K sSteps x y 0 < 2 ^ 16 := sideN_lt16 hc.2 hr.2 _
      generalize hM1 : sideN c r O K sSteps x y 1 = M1 at *
      have HM1 := Lib.hid hM1
      clear hM1
      generalize sideN c r O K sSteps x y 0 = m at *
      have HA : Hid (∀ u, Calls Tryd.prog 71 #[.agg #[.int .i64 x, .int .i64 y], .agg #[.int .i64 1, .int .i64 0]] u fun e w' => e = .returned (.agg #[.int .i64 (x + 1), .int .i64 (y + 0)]) ∧ Below u.heap.size u w') := fun u => spotAfter_any _ _ _ _ (by omega) (by omega) u
      have hx2b : -1 ≤ x + 1 ∧ x + 1 ≤ 13 := by omega
      have hy2b : -1 ≤ y + 0 ∧ y + 0 ≤ 13 := by omega
      generalize hx2 : x + 1 = x2 at *
      generalize hy2 : y + 0 = y2 at *
      have S1 := S0.step (dx := 1) (dy := 0) 68
      obtain ⟨⟨c0, c1⟩, ⟨c2, c3⟩, c4, c5⟩ := S1.cells
      have hix : ∀ v : World, (Instr.index 77 (.agg #[.int .i64 1, .int .i64 0, .int .i64 (-1), .int .i64 0, .int .i64 0, .int .i64 1, .int .i64 0, .int .i64 (-1)]) (.int .i64 0)).run Tryd.prog v = .ok (.agg #[.int .i64 1, .int .i64 0]) v := fun v => by kernel_rfl
      clear S0 hx2 hy2
      go_wp2_with fail
      refine (HA.out _).mono ?_
      rintro e1 w1 ⟨rfl, hb1⟩
      have S2 := ((S1.on _ hb1).spot).step (dx := x2) (dy := y2) 68
      clear S1 c0 c1 c2 c3 c4 c5 hb1 hix
      obtain ⟨⟨c0, c1⟩, ⟨c2, c3⟩, c4, c5⟩ := S2.cells
      go_wp2_with fail
      refine (only_any _ _ _ _ hc.2 hr.2 _).mono ?_
      rintro e2 w2 ⟨rfl, hb2⟩
      have S3 := S2.on _ hb2
      clear S2 c0 c1 c2 c3 c4 c5 hb2
      obtain ⟨⟨c0, c1⟩, ⟨c2, c3⟩, c4, c5⟩ := S3.cells
      by_cases hin : 0 ≤ x2 ∧ x2 < c ∧ 0 ≤ y2 ∧ y2 < r
      · have ho : onlyN c r x2 y2 = 2 ^ (y2.toNat * c + x2.toNat) := if_pos hin
        have hne : (((onlyN c r x2 y2 : Nat) : Int) == 0) = false := by
          rw [beq_eq_false_iff_ne, ho]; have := Nat.one_le_two_pow (n := y2.toNat * c + x2.toNat); omega
        have hne2 : ¬ ((onlyN c r x2 y2 : Nat) : Int) = 0 := by
          rw [ho]; have := Nat.one_le_two_pow (n := y2.toNat * c + x2.toNat); omega
        have hne' : (onlyN c r x2 y2 == 0) = false := by
          rw [beq_eq_false_iff_ne, ho]; have := Nat.one_le_two_pow (n := y2.toNat * c + x2.toNat); omega
        obtain ⟨X, rfl⟩ : ∃ X : Nat, x2 = X := ⟨x2.toNat, by omega⟩
        obtain ⟨Y, rfl⟩ : ∃ Y : Nat, y2 = Y := ⟨y2.toNat, by omega⟩
        have HBT := Lib.hid (HB X Y (by omega) (by omega))
        have hH : hitS c r O K (X : Nat) (Y : Nat) = hitO K (O (X : Nat) (Y : Nat)) := by unfold hitS; rw [hne']; rfl
        rw [hH] at HS
        have hA := setO_and (O (X : Nat) (Y : Nat)) K
        have hOl := hOb X Y (by omega) (by omega)
        have b2 := onlyc_lt (c := c) (r := r) (x := (X : Nat)) (y := (Y : Nat)) hc.2 hr.2
        have wa : Go.bits .and .u64 ((setO (O (X : Nat) (Y : Nat)) : Nat) : Int) (K : Int) = ((setO (O (X : Nat) (Y : Nat)) &&& K : Nat) : Int) := and_u (by omega) hK
        have wo : Go.bits .or .u64 (m : Int) ((onlyN c r (X : Nat) (Y : Nat) : Nat) : Int) = ((m ||| onlyN c r (X : Nat) (Y : Nat) : Nat) : Int) := or_u (by omega) (by omega)
        generalize onlyN c r (X : Nat) (Y : Nat) = o at *
        generalize setO (O (X : Nat) (Y : Nat)) &&& K = sk at *
        generalize setO (O (X : Nat) (Y : Nat)) = so at *
        generalize hitO K (O (X : Nat) (Y : Nat)) = ht at *
        clear hin ho hne' hH hOl
        cases ht with
        | true =>
          have hsk : ((sk : Int) == 0) = false := by
            have : (sk == 0) = false := hA
            rw [beq_eq_false_iff_ne] at this ⊢; omega
          rw [if_pos rfl] at HS
          rw [← HS.out] at wo
          clear hA HS
          go_wp2_with fail
          refine (HBT.out _).mono ?_
          rintro e3 w3 ⟨rfl, hb3⟩
          have S4 := (S3.on _ hb3).spot
          go_wp2_with fail
          go_roundw
          case rel => exact ⟨1, by omega, rfl, by rw [HM1.out], S4⟩
          case measure => simp [intOf]
        | false =>
          have hsk : ((sk : Int) == 0) = true := by
            have : (sk == 0) = true := hA
            rw [beq_iff_eq] at this ⊢; omega
          rw [if_neg (by simp), Nat.or_zero] at HS
          clear hA wo
          go_wp2_with fail
          refine (HBT.out _).mono ?_
          rintro e3 w3 ⟨rfl, hb3⟩
          have S4 := (S3.on _ hb3).spot
          go_wp2_with fail
          go_roundw
          case rel => exact ⟨1, by omega, rfl, by rw [HM1.out, HS.out], S4⟩
          case measure => simp [intOf]
      · have ho : onlyN c r x2 y2 = 0 := if_neg hin
        have hH : hitS c r O K x2 y2 = false := by unfold hitS; rw [ho]; rfl
        rw [hH, if_neg (by simp), Nat.or_zero] at HS
        rw [ho]
        have S4 := S3.spot
        clear ho hH hin
        go_wp2_with fail
        go_roundw
        case rel => exact ⟨1, by omega, rfl, by rw [HM1.out, HS.out], S4⟩
        case measure => simp [intOf]
    | 1, _ =>
      have HS : Hid (sideN c r O K sSteps x y 2 = sideN c r O K sSteps x y 1 ||| (if hitS c r O K (x + (-1)) (y + 0) = true then onlyN c r (x + (-1)) (y + 0) else 0)) := rfl
      have b1 : sideN c r O K sSteps x y 1 < 2 ^ 16 := sideN_lt16 hc.2 hr.2 _
      generalize hM1 : sideN c r O K sSteps x y 2 = M1 at *
      have HM1 := Lib.hid hM1
      clear hM1
      generalize sideN c r O K sSteps x y 1 = m at *
      have HA : Hid (∀ u, Calls Tryd.prog 71 #[.agg #[.int .i64 x, .int .i64 y], .agg #[.int .i64 (-1), .int .i64 0]] u fun e w' => e = .returned (.agg #[.int .i64 (x + (-1)), .int .i64 (y + 0)]) ∧ Below u.heap.size u w') := fun u => spotAfter_any _ _ _ _ (by omega) (by omega) u
      have hx2b : -1 ≤ x + (-1) ∧ x + (-1) ≤ 13 := by omega
      have hy2b : -1 ≤ y + 0 ∧ y + 0 ≤ 13 := by omega
      generalize hx2 : x + (-1) = x2 at *
      generalize hy2 : y + 0 = y2 at *
      have S1 := S0.step (dx := (-1)) (dy := 0) 68
      obtain ⟨⟨c0, c1⟩, ⟨c2, c3⟩, c4, c5⟩ := S1.cells
      have hix : ∀ v : World, (Instr.index 77 (.agg #[.int .i64 1, .int .i64 0, .int .i64 (-1), .int .i64 0, .int .i64 0, .int .i64 1, .int .i64 0, .int .i64 (-1)]) (.int .i64 1)).run Tryd.prog v = .ok (.agg #[.int .i64 (-1), .int .i64 0]) v := fun v => by kernel_rfl
      clear S0 hx2 hy2
      go_wp2_with fail
      refine (HA.out _).mono ?_
      rintro e1 w1 ⟨rfl, hb1⟩
      have S2 := ((S1.on _ hb1).spot).step (dx := x2) (dy := y2) 68
      clear S1 c0 c1 c2 c3 c4 c5 hb1 hix
      obtain ⟨⟨c0, c1⟩, ⟨c2, c3⟩, c4, c5⟩ := S2.cells
      go_wp2_with fail
      refine (only_any _ _ _ _ hc.2 hr.2 _).mono ?_
      rintro e2 w2 ⟨rfl, hb2⟩
      have S3 := S2.on _ hb2
      clear S2 c0 c1 c2 c3 c4 c5 hb2
      obtain ⟨⟨c0, c1⟩, ⟨c2, c3⟩, c4, c5⟩ := S3.cells
      by_cases hin : 0 ≤ x2 ∧ x2 < c ∧ 0 ≤ y2 ∧ y2 < r
      · have ho : onlyN c r x2 y2 = 2 ^ (y2.toNat * c + x2.toNat) := if_pos hin
        have hne : (((onlyN c r x2 y2 : Nat) : Int) == 0) = false := by
          rw [beq_eq_false_iff_ne, ho]; have := Nat.one_le_two_pow (n := y2.toNat * c + x2.toNat); omega
        have hne2 : ¬ ((onlyN c r x2 y2 : Nat) : Int) = 0 := by
          rw [ho]; have := Nat.one_le_two_pow (n := y2.toNat * c + x2.toNat); omega
        have hne' : (onlyN c r x2 y2 == 0) = false := by
          rw [beq_eq_false_iff_ne, ho]; have := Nat.one_le_two_pow (n := y2.toNat * c + x2.toNat); omega
        obtain ⟨X, rfl⟩ : ∃ X : Nat, x2 = X := ⟨x2.toNat, by omega⟩
        obtain ⟨Y, rfl⟩ : ∃ Y : Nat, y2 = Y := ⟨y2.toNat, by omega⟩
        have HBT := Lib.hid (HB X Y (by omega) (by omega))
        have hH : hitS c r O K (X : Nat) (Y : Nat) = hitO K (O (X : Nat) (Y : Nat)) := by unfold hitS; rw [hne']; rfl
        rw [hH] at HS
        have hA := setO_and (O (X : Nat) (Y : Nat)) K
        have hOl := hOb X Y (by omega) (by omega)
        have b2 := onlyc_lt (c := c) (r := r) (x := (X : Nat)) (y := (Y : Nat)) hc.2 hr.2
        have wa : Go.bits .and .u64 ((setO (O (X : Nat) (Y : Nat)) : Nat) : Int) (K : Int) = ((setO (O (X : Nat) (Y : Nat)) &&& K : Nat) : Int) := and_u (by omega) hK
        have wo : Go.bits .or .u64 (m : Int) ((onlyN c r (X : Nat) (Y : Nat) : Nat) : Int) = ((m ||| onlyN c r (X : Nat) (Y : Nat) : Nat) : Int) := or_u (by omega) (by omega)
        generalize onlyN c r (X : Nat) (Y : Nat) = o at *
        generalize setO (O (X : Nat) (Y : Nat)) &&& K = sk at *
        generalize setO (O (X : Nat) (Y : Nat)) = so at *
        generalize hitO K (O (X : Nat) (Y : Nat)) = ht at *
        clear hin ho hne' hH hOl
        cases ht with
        | true =>
          have hsk : ((sk : Int) == 0) = false := by
            have : (sk == 0) = false := hA
            rw [beq_eq_false_iff_ne] at this ⊢; omega
          rw [if_pos rfl] at HS
          rw [← HS.out] at wo
          clear hA HS
          go_wp2_with fail
          refine (HBT.out _).mono ?_
          rintro e3 w3 ⟨rfl, hb3⟩
          have S4 := (S3.on _ hb3).spot
          go_wp2_with fail
          go_roundw
          case rel => exact ⟨2, by omega, rfl, by rw [HM1.out], S4⟩
          case measure => simp [intOf]
        | false =>
          have hsk : ((sk : Int) == 0) = true := by
            have : (sk == 0) = true := hA
            rw [beq_iff_eq] at this ⊢; omega
          rw [if_neg (by simp), Nat.or_zero] at HS
          clear hA wo
          go_wp2_with fail
          refine (HBT.out _).mono ?_
          rintro e3 w3 ⟨rfl, hb3⟩
          have S4 := (S3.on _ hb3).spot
          go_wp2_with fail
          go_roundw
          case rel => exact ⟨2, by omega, rfl, by rw [HM1.out, HS.out], S4⟩
          case measure => simp [intOf]
      · have ho : onlyN c r x2 y2 = 0 := if_neg hin
        have hH : hitS c r O K x2 y2 = false := by unfold hitS; rw [ho]; rfl
        rw [hH, if_neg (by simp), Nat.or_zero] at HS
        rw [ho]
        have S4 := S3.spot
        clear ho hH hin
        go_wp2_with fail
        go_roundw
        case rel => exact ⟨2, by omega, rfl, by rw [HM1.out, HS.out], S4⟩
        case measure => simp [intOf]
    | 2, _ =>
      have HS : Hid (sideN c r O K sSteps x y 3 = sideN c r O K sSteps x y 2 ||| (if hitS c r O K (x + 0) (y + 1) = true then onlyN c r (x + 0) (y + 1) else 0)) := rfl
      have b1 : sideN c r O K sSteps x y 2 < 2 ^ 16 := sideN_lt16 hc.2 hr.2 _
      generalize hM1 : sideN c r O K sSteps x y 3 = M1 at *
      have HM1 := Lib.hid hM1
      clear hM1
      generalize sideN c r O K sSteps x y 2 = m at *
      have HA : Hid (∀ u, Calls Tryd.prog 71 #[.agg #[.int .i64 x, .int .i64 y], .agg #[.int .i64 0, .int .i64 1]] u fun e w' => e = .returned (.agg #[.int .i64 (x + 0), .int .i64 (y + 1)]) ∧ Below u.heap.size u w') := fun u => spotAfter_any _ _ _ _ (by omega) (by omega) u
      have hx2b : -1 ≤ x + 0 ∧ x + 0 ≤ 13 := by omega
      have hy2b : -1 ≤ y + 1 ∧ y + 1 ≤ 13 := by omega
      generalize hx2 : x + 0 = x2 at *
      generalize hy2 : y + 1 = y2 at *
      have S1 := S0.step (dx := 0) (dy := 1) 68
      obtain ⟨⟨c0, c1⟩, ⟨c2, c3⟩, c4, c5⟩ := S1.cells
      have hix : ∀ v : World, (Instr.index 77 (.agg #[.int .i64 1, .int .i64 0, .int .i64 (-1), .int .i64 0, .int .i64 0, .int .i64 1, .int .i64 0, .int .i64 (-1)]) (.int .i64 2)).run Tryd.prog v = .ok (.agg #[.int .i64 0, .int .i64 1]) v := fun v => by kernel_rfl
      clear S0 hx2 hy2
      go_wp2_with fail
      refine (HA.out _).mono ?_
      rintro e1 w1 ⟨rfl, hb1⟩
      have S2 := ((S1.on _ hb1).spot).step (dx := x2) (dy := y2) 68
      clear S1 c0 c1 c2 c3 c4 c5 hb1 hix
      obtain ⟨⟨c0, c1⟩, ⟨c2, c3⟩, c4, c5⟩ := S2.cells
      go_wp2_with fail
      refine (only_any _ _ _ _ hc.2 hr.2 _).mono ?_
      rintro e2 w2 ⟨rfl, hb2⟩
      have S3 := S2.on _ hb2
      clear S2 c0 c1 c2 c3 c4 c5 hb2
      obtain ⟨⟨c0, c1⟩, ⟨c2, c3⟩, c4, c5⟩ := S3.cells
      by_cases hin : 0 ≤ x2 ∧ x2 < c ∧ 0 ≤ y2 ∧ y2 < r
      · have ho : onlyN c r x2 y2 = 2 ^ (y2.toNat * c + x2.toNat) := if_pos hin
        have hne : (((onlyN c r x2 y2 : Nat) : Int) == 0) = false := by
          rw [beq_eq_false_iff_ne, ho]; have := Nat.one_le_two_pow (n := y2.toNat * c + x2.toNat); omega
        have hne2 : ¬ ((onlyN c r x2 y2 : Nat) : Int) = 0 := by
          rw [ho]; have := Nat.one_le_two_pow (n := y2.toNat * c + x2.toNat); omega
        have hne' : (onlyN c r x2 y2 == 0) = false := by
          rw [beq_eq_false_iff_ne, ho]; have := Nat.one_le_two_pow (n := y2.toNat * c + x2.toNat); omega
        obtain ⟨X, rfl⟩ : ∃ X : Nat, x2 = X := ⟨x2.toNat, by omega⟩
        obtain ⟨Y, rfl⟩ : ∃ Y : Nat, y2 = Y := ⟨y2.toNat, by omega⟩
        have HBT := Lib.hid (HB X Y (by omega) (by omega))
        have hH : hitS c r O K (X : Nat) (Y : Nat) = hitO K (O (X : Nat) (Y : Nat)) := by unfold hitS; rw [hne']; rfl
        rw [hH] at HS
        have hA := setO_and (O (X : Nat) (Y : Nat)) K
        have hOl := hOb X Y (by omega) (by omega)
        have b2 := onlyc_lt (c := c) (r := r) (x := (X : Nat)) (y := (Y : Nat)) hc.2 hr.2
        have wa : Go.bits .and .u64 ((setO (O (X : Nat) (Y : Nat)) : Nat) : Int) (K : Int) = ((setO (O (X : Nat) (Y : Nat)) &&& K : Nat) : Int) := and_u (by omega) hK
        have wo : Go.bits .or .u64 (m : Int) ((onlyN c r (X : Nat) (Y : Nat) : Nat) : Int) = ((m ||| onlyN c r (X : Nat) (Y : Nat) : Nat) : Int) := or_u (by omega) (by omega)
        generalize onlyN c r (X : Nat) (Y : Nat) = o at *
        generalize setO (O (X : Nat) (Y : Nat)) &&& K = sk at *
        generalize setO (O (X : Nat) (Y : Nat)) = so at *
        generalize hitO K (O (X : Nat) (Y : Nat)) = ht at *
        clear hin ho hne' hH hOl
        cases ht with
        | true =>
          have hsk : ((sk : Int) == 0) = false := by
            have : (sk == 0) = false := hA
            rw [beq_eq_false_iff_ne] at this ⊢; omega
          rw [if_pos rfl] at HS
          rw [← HS.out] at wo
          clear hA HS
          go_wp2_with fail
          refine (HBT.out _).mono ?_
          rintro e3 w3 ⟨rfl, hb3⟩
          have S4 := (S3.on _ hb3).spot
          go_wp2_with fail
          go_roundw
          case rel => exact ⟨3, by omega, rfl, by rw [HM1.out], S4⟩
          case measure => simp [intOf]
        | false =>
          have hsk : ((sk : Int) == 0) = true := by
            have : (sk == 0) = true := hA
            rw [beq_iff_eq] at this ⊢; omega
          rw [if_neg (by simp), Nat.or_zero] at HS
          clear hA wo
          go_wp2_with fail
          refine (HBT.out _).mono ?_
          rintro e3 w3 ⟨rfl, hb3⟩
          have S4 := (S3.on _ hb3).spot
          go_wp2_with fail
          go_roundw
          case rel => exact ⟨3, by omega, rfl, by rw [HM1.out, HS.out], S4⟩
          case measure => simp [intOf]
      · have ho : onlyN c r x2 y2 = 0 := if_neg hin
        have hH : hitS c r O K x2 y2 = false := by unfold hitS; rw [ho]; rfl
        rw [hH, if_neg (by simp), Nat.or_zero] at HS
        rw [ho]
        have S4 := S3.spot
        clear ho hH hin
        go_wp2_with fail
        go_roundw
        case rel => exact ⟨3, by omega, rfl, by rw [HM1.out, HS.out], S4⟩
        case measure => simp [intOf]
    | 3, _ =>
      have HS : Hid (sideN c r O K sSteps x y 4 = sideN c r O K sSteps x y 3 ||| (if hitS c r O K (x + 0) (y + (-1)) = true then onlyN c r (x + 0) (y + (-1)) else 0)) := rfl
      have b1 : sideN c r O K sSteps x y 3 < 2 ^ 16 := sideN_lt16 hc.2 hr.2 _
      generalize hM1 : sideN c r O K sSteps x y 4 = M1 at *
      have HM1 := Lib.hid hM1
      clear hM1
      generalize sideN c r O K sSteps x y 3 = m at *
      have HA : Hid (∀ u, Calls Tryd.prog 71 #[.agg #[.int .i64 x, .int .i64 y], .agg #[.int .i64 0, .int .i64 (-1)]] u fun e w' => e = .returned (.agg #[.int .i64 (x + 0), .int .i64 (y + (-1))]) ∧ Below u.heap.size u w') := fun u => spotAfter_any _ _ _ _ (by omega) (by omega) u
      have hx2b : -1 ≤ x + 0 ∧ x + 0 ≤ 13 := by omega
      have hy2b : -1 ≤ y + (-1) ∧ y + (-1) ≤ 13 := by omega
      generalize hx2 : x + 0 = x2 at *
      generalize hy2 : y + (-1) = y2 at *
      have S1 := S0.step (dx := 0) (dy := (-1)) 68
      obtain ⟨⟨c0, c1⟩, ⟨c2, c3⟩, c4, c5⟩ := S1.cells
      have hix : ∀ v : World, (Instr.index 77 (.agg #[.int .i64 1, .int .i64 0, .int .i64 (-1), .int .i64 0, .int .i64 0, .int .i64 1, .int .i64 0, .int .i64 (-1)]) (.int .i64 3)).run Tryd.prog v = .ok (.agg #[.int .i64 0, .int .i64 (-1)]) v := fun v => by kernel_rfl
      clear S0 hx2 hy2
      go_wp2_with fail
      refine (HA.out _).mono ?_
      rintro e1 w1 ⟨rfl, hb1⟩
      have S2 := ((S1.on _ hb1).spot).step (dx := x2) (dy := y2) 68
      clear S1 c0 c1 c2 c3 c4 c5 hb1 hix
      obtain ⟨⟨c0, c1⟩, ⟨c2, c3⟩, c4, c5⟩ := S2.cells
      go_wp2_with fail
      refine (only_any _ _ _ _ hc.2 hr.2 _).mono ?_
      rintro e2 w2 ⟨rfl, hb2⟩
      have S3 := S2.on _ hb2
      clear S2 c0 c1 c2 c3 c4 c5 hb2
      obtain ⟨⟨c0, c1⟩, ⟨c2, c3⟩, c4, c5⟩ := S3.cells
      by_cases hin : 0 ≤ x2 ∧ x2 < c ∧ 0 ≤ y2 ∧ y2 < r
      · have ho : onlyN c r x2 y2 = 2 ^ (y2.toNat * c + x2.toNat) := if_pos hin
        have hne : (((onlyN c r x2 y2 : Nat) : Int) == 0) = false := by
          rw [beq_eq_false_iff_ne, ho]; have := Nat.one_le_two_pow (n := y2.toNat * c + x2.toNat); omega
        have hne2 : ¬ ((onlyN c r x2 y2 : Nat) : Int) = 0 := by
          rw [ho]; have := Nat.one_le_two_pow (n := y2.toNat * c + x2.toNat); omega
        have hne' : (onlyN c r x2 y2 == 0) = false := by
          rw [beq_eq_false_iff_ne, ho]; have := Nat.one_le_two_pow (n := y2.toNat * c + x2.toNat); omega
        obtain ⟨X, rfl⟩ : ∃ X : Nat, x2 = X := ⟨x2.toNat, by omega⟩
        obtain ⟨Y, rfl⟩ : ∃ Y : Nat, y2 = Y := ⟨y2.toNat, by omega⟩
        have HBT := Lib.hid (HB X Y (by omega) (by omega))
        have hH : hitS c r O K (X : Nat) (Y : Nat) = hitO K (O (X : Nat) (Y : Nat)) := by unfold hitS; rw [hne']; rfl
        rw [hH] at HS
        have hA := setO_and (O (X : Nat) (Y : Nat)) K
        have hOl := hOb X Y (by omega) (by omega)
        have b2 := onlyc_lt (c := c) (r := r) (x := (X : Nat)) (y := (Y : Nat)) hc.2 hr.2
        have wa : Go.bits .and .u64 ((setO (O (X : Nat) (Y : Nat)) : Nat) : Int) (K : Int) = ((setO (O (X : Nat) (Y : Nat)) &&& K : Nat) : Int) := and_u (by omega) hK
        have wo : Go.bits .or .u64 (m : Int) ((onlyN c r (X : Nat) (Y : Nat) : Nat) : Int) = ((m ||| onlyN c r (X : Nat) (Y : Nat) : Nat) : Int) := or_u (by omega) (by omega)
        generalize onlyN c r (X : Nat) (Y : Nat) = o at *
        generalize setO (O (X : Nat) (Y : Nat)) &&& K = sk at *
        generalize setO (O (X : Nat) (Y : Nat)) = so at *
        generalize hitO K (O (X : Nat) (Y : Nat)) = ht at *
        clear hin ho hne' hH hOl
        cases ht with
        | true =>
          have hsk : ((sk : Int) == 0) = false := by
            have : (sk == 0) = false := hA
            rw [beq_eq_false_iff_ne] at this ⊢; omega
          rw [if_pos rfl] at HS
          rw [← HS.out] at wo
          clear hA HS
          go_wp2_with fail
          refine (HBT.out _).mono ?_
          rintro e3 w3 ⟨rfl, hb3⟩
          have S4 := (S3.on _ hb3).spot
          go_wp2_with fail
          go_roundw
          case rel => exact ⟨4, by omega, rfl, by rw [HM1.out], S4⟩
          case measure => simp [intOf]
        | false =>
          have hsk : ((sk : Int) == 0) = true := by
            have : (sk == 0) = true := hA
            rw [beq_iff_eq] at this ⊢; omega
          rw [if_neg (by simp), Nat.or_zero] at HS
          clear hA wo
          go_wp2_with fail
          refine (HBT.out _).mono ?_
          rintro e3 w3 ⟨rfl, hb3⟩
          have S4 := (S3.on _ hb3).spot
          go_wp2_with fail
          go_roundw
          case rel => exact ⟨4, by omega, rfl, by rw [HM1.out, HS.out], S4⟩
          case measure => simp [intOf]
      · have ho : onlyN c r x2 y2 = 0 := if_neg hin
        have hH : hitS c r O K x2 y2 = false := by unfold hitS; rw [ho]; rfl
        rw [hH, if_neg (by simp), Nat.or_zero] at HS
        rw [ho]
        have S4 := S3.spot
        clear ho hH hin
        go_wp2_with fail
        go_roundw
        case rel => exact ⟨4, by omega, rfl, by rw [HM1.out, HS.out], S4⟩
        case measure => simp [intOf]
    | 4, _ =>
      go_wp2_with fail
      go_returns
      exact ⟨rfl, S0.below⟩
end Go.Proofs.YtcmomghlepmogaaDoor

/- Grids of the program: LeadsOk, PassesOk, CountLeads. -/
namespace Go.Proofs.YtcmomghlepmogaaDoor
open Go.RowKit
set_option linter.unusedVariables false
set_option maxRecDepth 100000

theorem gridOk_any (c r : Int) (w : World) : Calls Tryd.prog 22 #[.int .i64 c, .int .i64 r] w fun e w' => e = .returned (.bool (gridOkB c r)) ∧ Below w.heap.size w w' := by
  go_enter Tryd.func22, Tryd.ntmps22
  go_wp2_with fail
  all_goals go_returns
  all_goals exact ⟨retB (by first | (simp [gridOkB, *]; done) | (simp [gridOkB, *]; omega)), Below.refl _ _⟩
theorem gridEdges_any (c r : Int) (w : World) : Calls Tryd.prog 47 #[.int .i64 c, .int .i64 r] w fun e w' => e = .returned (.int .i64 (gridEI c r)) ∧ Below w.heap.size w w' := by
  unfold gridEI
  cases hB : gridOkB c r with
  | false =>
    have HB := Lib.hid hB
    rw [if_neg (by simp)]
    clear hB
    go_enter Tryd.func47, Tryd.ntmps47
    go_wp2_with fail
    refine (gridOk_any _ _ _).mono ?_
    rintro e1 w1 ⟨rfl, hb1⟩
    rw [HB.out]
    go_wp2_with fail
    go_returns
    exact ⟨rfl, hb1⟩
  | true =>
    have HB := Lib.hid hB
    rw [if_pos rfl]
    obtain ⟨C, R, rfl, rfl, hc, hr⟩ := grid_nat hB
    rw [show ((C : Nat) : Int).toNat = C from rfl, show ((R : Nat) : Int).toNat = R from rfl]
    clear hB
    go_enter Tryd.func47, Tryd.ntmps47
    go_wp2_with fail
    refine (gridOk_any _ _ _).mono ?_
    rintro e1 w1 ⟨rfl, hb1⟩
    rw [HB.out]
    go_wp2_with fail
    refine (gridEdgesOf_any C R hc hr _).mono ?_
    rintro e2 w2 ⟨rfl, hb2⟩
    go_wp2_with fail
    go_returns
    exact ⟨rfl, hb1.trans (hb2.mono hb1.size)⟩
theorem gridStateOk_any (s c r : Int) (w : World) : Calls Tryd.prog 32 #[.int .i64 s, .int .i64 c, .int .i64 r] w fun e w' => e = .returned (.bool (edgeB s c r)) ∧ Below w.heap.size w w' := by
  unfold edgeB
  cases hB : gridOkB c r with
  | false =>
    have HB := Lib.hid hB
    clear hB
    go_enter Tryd.func32, Tryd.ntmps32
    go_wp2_with fail
    refine (gridOk_any _ _ _).mono ?_
    rintro e1 w1 ⟨rfl, hb1⟩
    rw [HB.out]
    go_wp2_with fail
    go_returns
    exact ⟨retB (by simp), hb1⟩
  | true =>
    have HB := Lib.hid hB
    obtain ⟨C, R, rfl, rfl, hc, hr⟩ := grid_nat hB
    have hE : gridEI C R = (gridE C R : Nat) := if_pos hB
    have hg := (grid_edges hc hr).2.2
    rw [show ((C : Nat) : Int).toNat = C from rfl, show ((R : Nat) : Int).toNat = R from rfl]
    have HGE : Hid (∀ u, Calls Tryd.prog 47 #[.int .i64 C, .int .i64 R] u fun e w' => e = .returned (.int .i64 (gridE C R : Nat)) ∧ Below u.heap.size u w') := fun u => by rw [← hE]; exact gridEdges_any C R u
    generalize gridE C R = n at *
    obtain ⟨P, hP, p1, p2, hp3, hp4⟩ := pow_named12 hg
    rw [hP]
    clear hB hE hP
    have hi : inB s P = (decide (0 ≤ s) && decide (s < (P : Int))) := by
      unfold inB
      rw [Bool.eq_iff_iff]
      simp only [Bool.and_eq_true, decide_eq_true_eq]; omega
    rw [hi]
    clear hi
    by_cases hs : 0 ≤ s
    · go_enter Tryd.func32, Tryd.ntmps32
      go_wp2_with fail
      refine (gridOk_any _ _ _).mono ?_
      rintro e1 w1 ⟨rfl, hb1⟩
      rw [HB.out]
      go_wp2_with fail
      refine (HGE.out _).mono ?_
      rintro e2 w2 ⟨rfl, hb2⟩
      have hb3 := hb1.trans (hb2.mono hb1.size)
      go_wp2_with fail
      all_goals go_returns
      all_goals exact ⟨retB (by first | (simp [*]; done) | (simp [*]; omega)), hb3⟩
    · have hs' : s < 0 := by omega
      go_enter Tryd.func32, Tryd.ntmps32
      go_wp2_with fail
      refine (gridOk_any _ _ _).mono ?_
      rintro e1 w1 ⟨rfl, hb1⟩
      rw [HB.out]
      go_wp2_with fail
      all_goals go_returns
      all_goals exact ⟨retB (by first | (simp [*]; done) | (simp [*]; omega)), hb1⟩

def obP (w h x y x' y' : Nat) : Bool := decide (setO (ptO w h x y (x' : Nat) (y' : Nat)) < 65536)
def obF (w h x y x' y' : Nat) : Bool := decide (setO (fdO w h x y (x' : Nat) (y' : Nat)) < 65536)
theorem obP_all : ∀ w, w < 5 → ∀ h, h < 4 → ∀ x, x < w → ∀ y, y < h → ∀ x', x' < w → ∀ y', y' < h → obP w h x y x' y' = true := by decide +kernel
theorem obF_all : ∀ w, w < 5 → ∀ h, h < 4 → ∀ x, x < w - 1 → ∀ y, y < h + 1 → ∀ x', x' < w - 1 → ∀ y', y' < h + 1 → obF w h x y x' y' = true := by decide +kernel

/-- What an open walk's next spots are told by: the area, the open edges, the function between, one spot. -/
structure OpenAt (w u : World) (b0 b1 b2 c r K : Nat) (fv : Value) : Prop where
  a0 : u.cell? ⟨b0, 0, none⟩ = some (.int .i64 c)
  a1 : u.cell? ⟨b0, 1, none⟩ = some (.int .i64 r)
  k0 : u.cell? ⟨b1, 0, none⟩ = some (.int .u64 K)
  f0 : u.cell? ⟨b2, 0, none⟩ = some fv
  l0 : b0 < u.heap.size
  l1 : b1 < u.heap.size
  l2 : b2 < u.heap.size
  below : Below w.heap.size w u
theorem OpenAt.on {w u : World} {b0 b1 b2 c r K : Nat} {fv : Value} (h : OpenAt w u b0 b1 b2 c r K fv) : ∀ w', Below u.heap.size u w' → OpenAt w w' b0 b1 b2 c r K fv := fun _ hb =>
  ⟨(hb.cell h.l0).trans h.a0, (hb.cell h.l0).trans h.a1, (hb.cell h.l1).trans h.k0, (hb.cell h.l2).trans h.f0,
    Nat.lt_of_lt_of_le h.l0 hb.size, Nat.lt_of_lt_of_le h.l1 hb.size, Nat.lt_of_lt_of_le h.l2 hb.size, h.below.trans (hb.mono h.below.size)⟩
theorem OpenAt.start (w : World) (c r K : Nat) (fv : Value) (T T1 T2 : TypeId) : OpenAt w (((w.alloc (.cells #[.int .i64 c, .int .i64 r] T)).alloc (.cells #[.int .u64 K] T1)).alloc (.cells #[fv] T2)) w.heap.size (w.heap.size + 1) (w.heap.size + 1 + 1) c r K fv :=
  ⟨by rw [World.cell?_alloc_past _ _ _ (by simp; omega), World.cell?_alloc_past _ _ _ (by simp), World.cell?_alloc_at _ _ _ _ (by simp)]; rfl,
    by rw [World.cell?_alloc_past _ _ _ (by simp; omega), World.cell?_alloc_past _ _ _ (by simp), World.cell?_alloc_at _ _ _ _ (by simp)]; rfl,
    by rw [World.cell?_alloc_past _ _ _ (by simp), World.cell?_alloc_at _ _ _ _ (by simp)]; rfl, by rw [World.cell?_alloc_at _ _ _ _ (by simp)]; rfl,
    by simp <;> omega, by simp <;> omega, by simp, (((Below.refl _ _).alloc (by simp) _).alloc (by simp) _).alloc (by simp; omega) _⟩

set_option maxHeartbeats 2000000 in
theorem openNextP_any (W H K b0 b1 b2 a : Nat) (hw : 2 ≤ W ∧ W ≤ 4) (hh : 1 ≤ H ∧ H ≤ 3) (ha : a < W * H) (hK : K < 2 ^ 64) (v w : World) (hL : LaidS w)
    (O0 : OpenAt v w b0 b1 b2 (W) (H) K (.func (.func 36) #[.agg #[.int .i64 W, .int .i64 H]] #[])) :
    Calls Tryd.prog 58 #[.agg #[.int .i64 (a % (W) : Nat), .int .i64 (a / (W) : Nat)], .pointer (some ⟨b0, 0, none⟩), .pointer (some ⟨b1, 0, none⟩), .pointer (some ⟨b2, 0, none⟩)] w fun e w' => e = .returned (.int .u64 (sideN (W) (H) (ptO W H (a % (W)) (a / (W))) K sSteps (a % (W) : Nat) (a / (W) : Nat) 4 : Nat)) ∧ Below w.heap.size w w' := by
  have hc : 1 ≤ W ∧ W ≤ 4 := by omega
  have hr : 1 ≤ H ∧ H ≤ 4 := by omega
  have h16 : W * H ≤ 4 * 4 := Nat.mul_le_mul hc.2 hr.2
  have hx : a % (W) < W := Nat.mod_lt _ (by omega)
  have hy : a / (W) < H := Nat.div_lt_of_lt_mul ha
  have B := (Below.refl w.heap.size w).alloc (by simp) (.cells #[.int .i64 (a % (W) : Nat), .int .i64 (a / (W) : Nat)] 68)
  have O1 := O0.on _ B
  have s0 : (w.alloc (.cells #[.int .i64 (a % (W) : Nat), .int .i64 (a / (W) : Nat)] 68)).cell? ⟨w.heap.size, 0, none⟩ = some (.int .i64 (a % (W) : Nat)) := by rw [World.cell?_alloc_at _ _ _ _ (by simp)]; rfl
  have s1 : (w.alloc (.cells #[.int .i64 (a % (W) : Nat), .int .i64 (a / (W) : Nat)] 68)).cell? ⟨w.heap.size, 1, none⟩ = some (.int .i64 (a / (W) : Nat)) := by rw [World.cell?_alloc_at _ _ _ _ (by simp)]; rfl
  have HOS : Hid (∀ u, LaidS u → Calls Tryd.prog 59 #[.agg #[.int .i64 (W : Nat), .int .i64 (H : Nat)], .agg #[.int .i64 (a % (W) : Nat), .int .i64 (a / (W) : Nat)], .int .u64 K, .func (.func 36) #[.agg #[.int .i64 W, .int .i64 H]] #[]] u fun e w' => e = .returned (.int .u64 (sideN (W) (H) (ptO W H (a % (W)) (a / (W))) K sSteps (a % (W) : Nat) (a / (W) : Nat) 4 : Nat)) ∧ Below u.heap.size u w') := fun u hu => by
    generalize a % (W) = x at *
    generalize a / (W) = y at *
    exact openSidesP_any W H (W) (H) _ _ K _ hc hr ⟨Int.natCast_nonneg _, by omega⟩ ⟨Int.natCast_nonneg _, by omega⟩ hK
      (fun x' y' h1 h2 => Nat.lt_of_lt_of_le (of_decide_eq_true (obP_all W (by omega) H (by omega) x (by omega) y (by omega) x' (by omega) y' (by omega))) (by decide)) u hu
      (fun x' y' h1 h2 u => betweenPoints_any W H x y x' y' hw hh (by omega) (by omega) (by omega) (by omega) u)
  generalize sideN (W) (H) (ptO W H (a % (W)) (a / (W))) K sSteps (a % (W) : Nat) (a / (W) : Nat) 4 = R at *
  generalize a % (W) = x at *
  generalize a / (W) = y at *
  have hL1 := hL.on B
  obtain ⟨c0, c1, c2, c3, -, -, -, -⟩ := O1
  clear O0 hL hx hy h16 ha
  go_enter Tryd.func58, Tryd.ntmps58
  go_wp2_with fail
  refine (HOS.out _ hL1).mono ?_
  rintro e1 w1 ⟨rfl, hb1⟩
  go_wp2_with fail
  go_returns
  exact ⟨rfl, B.trans (hb1.mono B.size)⟩

set_option maxHeartbeats 2000000 in
theorem edgesWalkP_any (W H K F G : Nat) (hw : 2 ≤ W ∧ W ≤ 4) (hh : 1 ≤ H ∧ H ≤ 3) (hK : K < 2 ^ 64) (hF : F < 2 ^ (W * H)) (hG : G < 2 ^ 16) (w : World) (hL : LaidG w) :
    Calls Tryd.prog 34 #[.agg #[.int .i64 (W : Nat), .int .i64 (H : Nat)], .int .u64 K, .int .u64 F, .int .u64 G, .func (.func 36) #[.agg #[.int .i64 W, .int .i64 H]] #[]] w fun e w' => ∃ D : Nat, Walk7 (fun a b => (sideN (W) (H) (ptO W H (a % (W)) (a / (W))) K sSteps (a % (W) : Nat) (a / (W) : Nat) 4).testBit b) (W * H) F D 0 ∧ e = .returned (.bool (!(D &&& G == 0))) ∧ Below w.heap.size w w' := by
  have hmf : ∀ (fn : Fn) (first cap : Array Value) (w : World), (Instr.makeFunc fn first cap).run Tryd.prog w = .ok (.func fn first cap) w := fun _ _ _ _ => rfl
  have h12 : W * H ≤ 12 := by
    have : ∀ w, w < 5 → ∀ h, h < 4 → (w) * (h) ≤ 12 := by decide
    exact this W (by omega) H (by omega)
  have O0 := OpenAt.start w (W) (H) K (.func (.func 36) #[.agg #[.int .i64 W, .int .i64 H]] #[]) 42 46 48
  obtain ⟨u, hu⟩ : ∃ u, u = ((w.alloc (.cells #[.int .i64 (W : Nat), .int .i64 (H : Nat)] 42)).alloc (.cells #[.int .u64 K] 46)).alloc (.cells #[.func (.func 36) #[.agg #[.int .i64 W, .int .i64 H]] #[]] 48) := ⟨_, rfl⟩
  rw [← hu] at O0
  have hLu := hL.on O0.below
  have HC : Hid (Calls Tryd.prog 57 #[.agg #[.int .i64 (W : Nat), .int .i64 (H : Nat)], .int .u64 F, .int .u64 G, .func (.func 58) #[] #[.pointer (some ⟨w.heap.size, 0, none⟩), .pointer (some ⟨w.heap.size + 1, 0, none⟩), .pointer (some ⟨w.heap.size + 1 + 1, 0, none⟩)]] u fun e w' => ∃ D : Nat, Walk7 (fun a b => (sideN (W) (H) (ptO W H (a % (W)) (a / (W))) K sSteps (a % (W) : Nat) (a / (W) : Nat) 4).testBit b) (W * H) F D 0 ∧ e = .returned (.bool (!(D &&& G == 0))) ∧ Below u.heap.size u w') :=
    leadsEdges_any (W) (H) (W * H) F G (fun a => sideN (W) (H) (ptO W H (a % (W)) (a / (W))) K sSteps (a % (W) : Nat) (a / (W) : Nat) 4) _ _ _ u hLu.z (by omega) h12 hF hG
      (fun i hi => side_lt 4)
      (fun v hv i hi => openNextP_any W H K _ _ _ i hw hh hi hK w v (hLu.s.on hv) (O0.on v hv))
  have HB := Lib.hid O0.below
  obtain ⟨c0, c1, c2, c3, -, -, -, -⟩ := O0
  generalize (fun a b => (sideN (W) (H) (ptO W H (a % (W)) (a / (W))) K sSteps (a % (W) : Nat) (a / (W) : Nat) 4).testBit b) = T at *
  generalize W * H = n at *
  subst hu
  clear hLu hL hF h12
  go_enter Tryd.func34, Tryd.ntmps34
  go_wp2_with fail
  refine HC.out.mono ?_
  rintro e1 w1 ⟨D, hW, rfl, hb1⟩
  go_wp2_with fail
  go_returns
  exact ⟨D, hW, rfl, HB.out.trans (hb1.mono HB.out.size)⟩

set_option maxHeartbeats 2000000 in
theorem openNextF_any (W H K b0 b1 b2 a : Nat) (hw : 2 ≤ W ∧ W ≤ 4) (hh : 1 ≤ H ∧ H ≤ 3) (ha : a < (W - 1) * (H + 1)) (hK : K < 2 ^ 64) (v w : World) (hL : LaidS w)
    (O0 : OpenAt v w b0 b1 b2 ((W - 1)) (H + 1) K (.func (.func 44) #[.agg #[.int .i64 W, .int .i64 H]] #[])) :
    Calls Tryd.prog 58 #[.agg #[.int .i64 (a % ((W - 1)) : Nat), .int .i64 (a / ((W - 1)) : Nat)], .pointer (some ⟨b0, 0, none⟩), .pointer (some ⟨b1, 0, none⟩), .pointer (some ⟨b2, 0, none⟩)] w fun e w' => e = .returned (.int .u64 (sideN ((W - 1)) (H + 1) (fdO W H (a % ((W - 1))) (a / ((W - 1)))) K sSteps (a % ((W - 1)) : Nat) (a / ((W - 1)) : Nat) 4 : Nat)) ∧ Below w.heap.size w w' := by
  have hc : 1 ≤ (W - 1) ∧ (W - 1) ≤ 4 := by omega
  have hr : 1 ≤ H + 1 ∧ H + 1 ≤ 4 := by omega
  have h16 : (W - 1) * (H + 1) ≤ 4 * 4 := Nat.mul_le_mul hc.2 hr.2
  have hx : a % ((W - 1)) < (W - 1) := Nat.mod_lt _ (by omega)
  have hy : a / ((W - 1)) < H + 1 := Nat.div_lt_of_lt_mul ha
  have B := (Below.refl w.heap.size w).alloc (by simp) (.cells #[.int .i64 (a % ((W - 1)) : Nat), .int .i64 (a / ((W - 1)) : Nat)] 68)
  have O1 := O0.on _ B
  have s0 : (w.alloc (.cells #[.int .i64 (a % ((W - 1)) : Nat), .int .i64 (a / ((W - 1)) : Nat)] 68)).cell? ⟨w.heap.size, 0, none⟩ = some (.int .i64 (a % ((W - 1)) : Nat)) := by rw [World.cell?_alloc_at _ _ _ _ (by simp)]; rfl
  have s1 : (w.alloc (.cells #[.int .i64 (a % ((W - 1)) : Nat), .int .i64 (a / ((W - 1)) : Nat)] 68)).cell? ⟨w.heap.size, 1, none⟩ = some (.int .i64 (a / ((W - 1)) : Nat)) := by rw [World.cell?_alloc_at _ _ _ _ (by simp)]; rfl
  have HOS : Hid (∀ u, LaidS u → Calls Tryd.prog 59 #[.agg #[.int .i64 ((W - 1) : Nat), .int .i64 (H + 1 : Nat)], .agg #[.int .i64 (a % ((W - 1)) : Nat), .int .i64 (a / ((W - 1)) : Nat)], .int .u64 K, .func (.func 44) #[.agg #[.int .i64 W, .int .i64 H]] #[]] u fun e w' => e = .returned (.int .u64 (sideN ((W - 1)) (H + 1) (fdO W H (a % ((W - 1))) (a / ((W - 1)))) K sSteps (a % ((W - 1)) : Nat) (a / ((W - 1)) : Nat) 4 : Nat)) ∧ Below u.heap.size u w') := fun u hu => by
    generalize a % ((W - 1)) = x at *
    generalize a / ((W - 1)) = y at *
    exact openSidesF_any W H ((W - 1)) (H + 1) _ _ K _ hc hr ⟨Int.natCast_nonneg _, by omega⟩ ⟨Int.natCast_nonneg _, by omega⟩ hK
      (fun x' y' h1 h2 => Nat.lt_of_lt_of_le (of_decide_eq_true (obF_all W (by omega) H (by omega) x (by omega) y (by omega) x' (by omega) y' (by omega))) (by decide)) u hu
      (fun x' y' h1 h2 u => betweenFields_any W H x y x' y' hw hh (by omega) (by omega) (by omega) (by omega) u)
  generalize sideN ((W - 1)) (H + 1) (fdO W H (a % ((W - 1))) (a / ((W - 1)))) K sSteps (a % ((W - 1)) : Nat) (a / ((W - 1)) : Nat) 4 = R at *
  generalize a % ((W - 1)) = x at *
  generalize a / ((W - 1)) = y at *
  have hL1 := hL.on B
  obtain ⟨c0, c1, c2, c3, -, -, -, -⟩ := O1
  clear O0 hL hx hy h16 ha
  go_enter Tryd.func58, Tryd.ntmps58
  go_wp2_with fail
  refine (HOS.out _ hL1).mono ?_
  rintro e1 w1 ⟨rfl, hb1⟩
  go_wp2_with fail
  go_returns
  exact ⟨rfl, B.trans (hb1.mono B.size)⟩

set_option maxHeartbeats 2000000 in
theorem edgesWalkF_any (W H K F G : Nat) (hw : 2 ≤ W ∧ W ≤ 4) (hh : 1 ≤ H ∧ H ≤ 3) (hK : K < 2 ^ 64) (hF : F < 2 ^ ((W - 1) * (H + 1))) (hG : G < 2 ^ 16) (w : World) (hL : LaidG w) :
    Calls Tryd.prog 34 #[.agg #[.int .i64 ((W - 1) : Nat), .int .i64 (H + 1 : Nat)], .int .u64 K, .int .u64 F, .int .u64 G, .func (.func 44) #[.agg #[.int .i64 W, .int .i64 H]] #[]] w fun e w' => ∃ D : Nat, Walk7 (fun a b => (sideN ((W - 1)) (H + 1) (fdO W H (a % ((W - 1))) (a / ((W - 1)))) K sSteps (a % ((W - 1)) : Nat) (a / ((W - 1)) : Nat) 4).testBit b) ((W - 1) * (H + 1)) F D 0 ∧ e = .returned (.bool (!(D &&& G == 0))) ∧ Below w.heap.size w w' := by
  have hmf : ∀ (fn : Fn) (first cap : Array Value) (w : World), (Instr.makeFunc fn first cap).run Tryd.prog w = .ok (.func fn first cap) w := fun _ _ _ _ => rfl
  have h12 : (W - 1) * (H + 1) ≤ 12 := by
    have : ∀ w, w < 5 → ∀ h, h < 4 → (w - 1) * (h + 1) ≤ 12 := by decide
    exact this W (by omega) H (by omega)
  have O0 := OpenAt.start w ((W - 1)) (H + 1) K (.func (.func 44) #[.agg #[.int .i64 W, .int .i64 H]] #[]) 42 46 48
  obtain ⟨u, hu⟩ : ∃ u, u = ((w.alloc (.cells #[.int .i64 ((W - 1) : Nat), .int .i64 (H + 1 : Nat)] 42)).alloc (.cells #[.int .u64 K] 46)).alloc (.cells #[.func (.func 44) #[.agg #[.int .i64 W, .int .i64 H]] #[]] 48) := ⟨_, rfl⟩
  rw [← hu] at O0
  have hLu := hL.on O0.below
  have HC : Hid (Calls Tryd.prog 57 #[.agg #[.int .i64 ((W - 1) : Nat), .int .i64 (H + 1 : Nat)], .int .u64 F, .int .u64 G, .func (.func 58) #[] #[.pointer (some ⟨w.heap.size, 0, none⟩), .pointer (some ⟨w.heap.size + 1, 0, none⟩), .pointer (some ⟨w.heap.size + 1 + 1, 0, none⟩)]] u fun e w' => ∃ D : Nat, Walk7 (fun a b => (sideN ((W - 1)) (H + 1) (fdO W H (a % ((W - 1))) (a / ((W - 1)))) K sSteps (a % ((W - 1)) : Nat) (a / ((W - 1)) : Nat) 4).testBit b) ((W - 1) * (H + 1)) F D 0 ∧ e = .returned (.bool (!(D &&& G == 0))) ∧ Below u.heap.size u w') :=
    leadsEdges_any ((W - 1)) (H + 1) ((W - 1) * (H + 1)) F G (fun a => sideN ((W - 1)) (H + 1) (fdO W H (a % ((W - 1))) (a / ((W - 1)))) K sSteps (a % ((W - 1)) : Nat) (a / ((W - 1)) : Nat) 4) _ _ _ u hLu.z (by omega) h12 hF hG
      (fun i hi => side_lt 4)
      (fun v hv i hi => openNextF_any W H K _ _ _ i hw hh hi hK w v (hLu.s.on hv) (O0.on v hv))
  have HB := Lib.hid O0.below
  obtain ⟨c0, c1, c2, c3, -, -, -, -⟩ := O0
  generalize (fun a b => (sideN ((W - 1)) (H + 1) (fdO W H (a % ((W - 1))) (a / ((W - 1)))) K sSteps (a % ((W - 1)) : Nat) (a / ((W - 1)) : Nat) 4).testBit b) = T at *
  generalize (W - 1) * (H + 1) = n at *
  subst hu
  clear hLu hL hF h12
  go_enter Tryd.func34, Tryd.ntmps34
  go_wp2_with fail
  refine HC.out.mono ?_
  rintro e1 w1 ⟨D, hW, rfl, hb1⟩
  go_wp2_with fail
  go_returns
  exact ⟨D, hW, rfl, HB.out.trans (hb1.mono HB.out.size)⟩

theorem edgesLeads_any (W H S : Nat) (hw : 2 ≤ W ∧ W ≤ 4) (hh : 1 ≤ H ∧ H ≤ 3) (hS : S < 2 ^ gridE W H) (w : World) (hL : LaidG w) :
    Calls Tryd.prog 34 #[.agg #[.int .i64 W, .int .i64 H], .int .u64 S, .int .u64 (colL W H : Nat), .int .u64 (colR W H : Nat), .func (.func 36) #[.agg #[.int .i64 W, .int .i64 H]] #[]] w fun e w' => e = .returned (.bool (leadsN W H S)) ∧ Below w.heap.size w w' := by
  have hg := (grid_edges hw hh).2.2
  have hp : 2 ^ gridE W H ≤ 2 ^ 13 := Nat.pow_le_pow_right (by omega) hg
  have hs : ∀ c, c < 5 → ∀ r, r < 4 → 1 ≤ c → colL c r < 2 ^ (c * r) ∧ colR c r < 2 ^ 16 := by decide +kernel
  obtain ⟨s1, s2⟩ := hs W (by omega) H (by omega) (by omega)
  refine (edgesWalkP_any W H S _ _ hw hh (by omega) s1 s2 w hL).mono ?_
  rintro e w' ⟨D, hW, rfl, hb⟩
  refine ⟨retB (leads_is hw hh hS (hW.reach (fun a b ha hb => ?_) (fun i => ?_) (by have := Nat.one_le_two_pow (n := W * H); omega))), hb⟩
  · show (sideN _ _ _ _ _ _ _ _).testBit b = _
    rw [pt_side hw hh ha hb, Nat.testBit_two_pow_sub_one]; simp [hb]
  · rw [Nat.testBit_two_pow_sub_one]
    by_cases hi : i < W * H
    · simp [hi]
    · rw [Nat.testBit_lt_two_pow (Nat.lt_of_lt_of_le s1 (Nat.pow_le_pow_right (by omega) (by omega)))]; simp
theorem edgesPass_any (W H S : Nat) (hw : 2 ≤ W ∧ W ≤ 4) (hh : 1 ≤ H ∧ H ≤ 3) (hS : S < 2 ^ gridE W H) (w : World) (hL : LaidG w) :
    Calls Tryd.prog 34 #[.agg #[.int .i64 (W - 1 : Nat), .int .i64 (H + 1 : Nat)], .int .u64 (notU S : Nat), .int .u64 (rowLow (W - 1) : Nat), .int .u64 (fdT W H : Nat), .func (.func 44) #[.agg #[.int .i64 W, .int .i64 H]] #[]] w fun e w' => e = .returned (.bool (passesN W H S)) ∧ Below w.heap.size w w' := by
  have hg := (grid_edges hw hh).2.2
  have hs : ∀ c, c < 5 → ∀ r, r < 4 → 2 ≤ c → rowLow (c - 1) < 2 ^ ((c - 1) * (r + 1)) ∧ fdT c r < 2 ^ 16 := by decide +kernel
  obtain ⟨s1, s2⟩ := hs W (by omega) H (by omega) (by omega)
  refine (edgesWalkF_any W H (notU S) _ _ hw hh (notU_lt S) s1 s2 w hL).mono ?_
  rintro e w' ⟨D, hW, rfl, hb⟩
  refine ⟨retB (passes_is hw hh hS (hW.reach (fun a b ha hb => ?_) (fun i => ?_) (by have := Nat.one_le_two_pow (n := (W - 1) * (H + 1)); omega))), hb⟩
  · show (sideN _ _ _ _ _ _ _ _).testBit b = _
    rw [fd_side hw hh hS hg ha hb, Nat.testBit_two_pow_sub_one]; simp [hb]
  · rw [Nat.testBit_two_pow_sub_one]
    by_cases hi : i < (W - 1) * (H + 1)
    · simp [hi]
    · rw [Nat.testBit_lt_two_pow (Nat.lt_of_lt_of_le s1 (Nat.pow_le_pow_right (by omega) (by omega)))]; simp

/-- The class of a grid and an area of the call's own, with the tables. -/
structure GridAt (w u : World) (b0 b1 W H c r : Nat) : Prop where
  g0 : u.cell? ⟨b0, 0, none⟩ = some (.int .i64 W)
  g1 : u.cell? ⟨b0, 1, none⟩ = some (.int .i64 H)
  a0 : u.cell? ⟨b1, 0, none⟩ = some (.int .i64 c)
  a1 : u.cell? ⟨b1, 1, none⟩ = some (.int .i64 r)
  l0 : b0 < u.heap.size
  l1 : b1 < u.heap.size
  below : Below w.heap.size w u
  laid : LaidG u
theorem GridAt.on {w u : World} {b0 b1 W H c r : Nat} (h : GridAt w u b0 b1 W H c r) : ∀ w', Below u.heap.size u w' → GridAt w w' b0 b1 W H c r := fun _ hb =>
  ⟨(hb.cell h.l0).trans h.g0, (hb.cell h.l0).trans h.g1, (hb.cell h.l1).trans h.a0, (hb.cell h.l1).trans h.a1, Nat.lt_of_lt_of_le h.l0 hb.size, Nat.lt_of_lt_of_le h.l1 hb.size, h.below.trans (hb.mono h.below.size), h.laid.on hb⟩
theorem GridAt.drew {w u : World} {b0 b1 W H c r : Nat} (h : GridAt w u b0 b1 W H c r) : GridAt w u.drew b0 b1 W H c r := h.on _ ((Below.refl _ _).drew)
theorem notk_key : ∀ S : Nat, S < 8192 → Go.bits .xor .u64 (if IntKind.u64.signed = true then -1 else IntKind.u64.max) (S : Int) = ((notU S : Nat) : Int) :=
  all13 (by decide +kernel) (by decide +kernel) (by decide +kernel) (by decide +kernel) (by decide +kernel) (by decide +kernel) (by decide +kernel) (by decide +kernel)

set_option maxHeartbeats 2000000 in
theorem leadsOk_any (s c r : Int) (w : World) (hL : LaidG w) : Calls Tryd.prog 11 #[.int .i64 s, .int .i64 c, .int .i64 r] w fun e w' => e = .returned (.bool (leadsI s c r)) ∧ Below w.heap.size w w' := by
  have hmf : ∀ (fn : Fn) (first cap : Array Value) (w : World), (Instr.makeFunc fn first cap).run Tryd.prog w = .ok (.func fn first cap) w := fun _ _ _ _ => rfl
  unfold leadsI
  cases hS : edgeB s c r with
  | false =>
    have HS := Lib.hid hS
    clear hS
    go_enter Tryd.func11, Tryd.ntmps11
    go_wp2_with fail
    refine (gridStateOk_any _ _ _ _).mono ?_
    rintro e1 w1 ⟨rfl, hb1⟩
    rw [HS.out]
    go_wp2_with fail
    go_returns
    exact ⟨rfl, hb1⟩
  | true =>
    have HS := Lib.hid hS
    unfold edgeB at hS
    rw [Bool.and_eq_true] at hS
    obtain ⟨h1, h2⟩ := hS
    obtain ⟨W, H, rfl, rfl, hw, hh⟩ := grid_nat h1
    rw [show ((W : Nat) : Int).toNat = W from rfl, show ((H : Nat) : Int).toNat = H from rfl] at *
    obtain ⟨S, rfl, hSS⟩ := inB_nat h2
    rw [show ((S : Nat) : Int).toNat = S from rfl]
    have hg := (grid_edges hw hh).2.2
    have hp : 2 ^ gridE W H ≤ 2 ^ 13 := Nat.pow_le_pow_right (by omega) hg
    have wu : IntKind.u64.wrap (S : Int) = (S : Int) := IntWalk.u64_in _ (by omega)
    have w1' : IntKind.i64.wrap ((W : Int) - 1) = (W : Int) - 1 := IntWalk.i64_in _ (by omega)
    have wn := notk_key S (by omega)
    have HX : Hid (∀ u, LaidG u → Calls Tryd.prog 34 #[.agg #[.int .i64 (W : Nat), .int .i64 (H : Nat)], .int .u64 (S : Nat), .int .u64 (colL W H : Nat), .int .u64 (colR W H : Nat), .func (.func 36) #[.agg #[.int .i64 W, .int .i64 H]] #[]] u fun e w' => e = .returned (.bool (leadsN W H S)) ∧ Below u.heap.size u w') := fun u hu => edgesLeads_any W H S hw hh hSS u hu
    have HP : Hid (∀ u, Calls Tryd.prog 33 #[.agg #[.int .i64 W, .int .i64 H]] u fun e w' => e = .returned (.agg #[.int .i64 (W : Nat), .int .i64 (H : Nat)]) ∧ Below u.heap.size u w') := fun u => points_any W H u
    have sides := col_sides W (by omega) H (by omega) (by omega)
    have H0 : Hid (∀ u, Calls Tryd.prog 35 #[.agg #[.int .i64 (W : Nat), .int .i64 (H : Nat)], .int .i64 0] u fun e w' => e = .returned (.int .u64 (colL W H : Nat)) ∧ Below u.heap.size u w') := fun u => by
      rw [← sides.1]; exact columnSet_any _ _ 0 (by omega) (by omega) u
    have H1 : Hid (∀ u, Calls Tryd.prog 35 #[.agg #[.int .i64 (W : Nat), .int .i64 (H : Nat)], .int .i64 ((W : Int) - 1)] u fun e w' => e = .returned (.int .u64 (colR W H : Nat)) ∧ Below u.heap.size u w') := fun u => by
      rw [← sides.2]; exact columnSet_any _ _ _ (by omega) (by omega) u
    clear h1 h2 sides hp hSS hg
    generalize colL W H = X0 at *
    generalize colR W H = X1 at *
    generalize leadsN W H S = v at *
    generalize notU S = nS at *
    generalize hl1 : (W : Int) - 1 = l1 at *
    go_enter Tryd.func11, Tryd.ntmps11
    go_wp2_with fail
    refine (gridStateOk_any _ _ _ _).mono ?_
    rintro e1 w1 ⟨rfl, hb1⟩
    rw [HS.out]
    have A1 := AreaAt.start w1 W H 40
    obtain ⟨c0, c1, -, -⟩ := id A1
    go_wp2_with fail
    refine (HP.out _).mono ?_
    rintro e2 w2 ⟨rfl, hb2⟩
    have A2 := A1.step hb2
    have D0 : GridAt w1 (w2.alloc (.cells #[.int .i64 (W), .int .i64 (H)] 42)) w1.heap.size w2.heap.size W H (W) (H) := by
      have B := (Below.refl w2.heap.size w2).alloc (by simp) (.cells #[.int .i64 (W), .int .i64 (H)] 42)
      have A3 := A2.step B
      exact ⟨A3.a0, A3.a1, by rw [World.cell?_alloc_at _ _ _ _ (by simp)]; rfl, by rw [World.cell?_alloc_at _ _ _ _ (by simp)]; rfl, A3.l0, by simp, A3.below, (hL.on hb1).on A3.below⟩
    clear A1 A2 c0 c1 hb2
    go_wp2_with fail
    refine wp_region_class (GridAt w1 · w1.heap.size w2.heap.size W H (W) (H)) (by kernel_rfl) (by kernel_rfl) D0.drew ?_
    intro X hX f hf hex
    have k0 : ∀ z, (f z).cell? ⟨w1.heap.size, 0, none⟩ = some (.int .i64 W) := fun z => (hf z).g0
    have k1 : ∀ z, (f z).cell? ⟨w1.heap.size, 1, none⟩ = some (.int .i64 H) := fun z => (hf z).g1
    have k2 : ∀ z, (f z).cell? ⟨w2.heap.size, 0, none⟩ = some (.int .i64 (W)) := fun z => (hf z).a0
    have k3 : ∀ z, (f z).cell? ⟨w2.heap.size, 1, none⟩ = some (.int .i64 (H)) := fun z => (hf z).a1
    repeat (go_big_quiet_step (first
      | (go_at_call 35; with_reducible exact class_of hex (H0.out _) (hf _).on)
      | (go_at_call 35; with_reducible exact class_of hex (H1.out _) (hf _).on)
      | (go_at_call 34; with_reducible exact class_of hex (HX.out _ (hf _).laid) (hf _).on)))
    refine wpQuiet_nil ?_
    rintro _ ⟨z, rfl⟩
    have DX := hf z
    go_wp2_with fail
    go_returns
    exact ⟨retB (by simp), hb1.trans (DX.below.mono hb1.size)⟩

set_option maxHeartbeats 2000000 in
theorem passesOk_any (s c r : Int) (w : World) (hL : LaidG w) : Calls Tryd.prog 15 #[.int .i64 s, .int .i64 c, .int .i64 r] w fun e w' => e = .returned (.bool (passesI s c r)) ∧ Below w.heap.size w w' := by
  have hmf : ∀ (fn : Fn) (first cap : Array Value) (w : World), (Instr.makeFunc fn first cap).run Tryd.prog w = .ok (.func fn first cap) w := fun _ _ _ _ => rfl
  unfold passesI
  cases hS : edgeB s c r with
  | false =>
    have HS := Lib.hid hS
    clear hS
    go_enter Tryd.func15, Tryd.ntmps15
    go_wp2_with fail
    refine (gridStateOk_any _ _ _ _).mono ?_
    rintro e1 w1 ⟨rfl, hb1⟩
    rw [HS.out]
    go_wp2_with fail
    go_returns
    exact ⟨rfl, hb1⟩
  | true =>
    have HS := Lib.hid hS
    unfold edgeB at hS
    rw [Bool.and_eq_true] at hS
    obtain ⟨h1, h2⟩ := hS
    obtain ⟨W, H, rfl, rfl, hw, hh⟩ := grid_nat h1
    rw [show ((W : Nat) : Int).toNat = W from rfl, show ((H : Nat) : Int).toNat = H from rfl] at *
    obtain ⟨S, rfl, hSS⟩ := inB_nat h2
    rw [show ((S : Nat) : Int).toNat = S from rfl]
    have hg := (grid_edges hw hh).2.2
    have hp : 2 ^ gridE W H ≤ 2 ^ 13 := Nat.pow_le_pow_right (by omega) hg
    have wu : IntKind.u64.wrap (S : Int) = (S : Int) := IntWalk.u64_in _ (by omega)
    have w1' : IntKind.i64.wrap ((W : Int) - 1) = (W : Int) - 1 := IntWalk.i64_in _ (by omega)
    have wn := notk_key S (by omega)
    have HX : Hid (∀ u, LaidG u → Calls Tryd.prog 34 #[.agg #[.int .i64 ((W - 1 : Nat)), .int .i64 ((H + 1 : Nat))], .int .u64 (notU S : Nat), .int .u64 (rowLow (W - 1) : Nat), .int .u64 (fdT W H : Nat), .func (.func 44) #[.agg #[.int .i64 W, .int .i64 H]] #[]] u fun e w' => e = .returned (.bool (passesN W H S)) ∧ Below u.heap.size u w') := fun u hu => edgesPass_any W H S hw hh hSS u hu
    have HP : Hid (∀ u, Calls Tryd.prog 42 #[.agg #[.int .i64 W, .int .i64 H]] u fun e w' => e = .returned (.agg #[.int .i64 ((W - 1 : Nat)), .int .i64 ((H + 1 : Nat))]) ∧ Below u.heap.size u w') := fun u => fields_any W H (by omega) (by omega) u
    have sides := row_sides (W - 1) (by omega) (H + 1) (by omega) (by omega) (by omega)
    have H0 : Hid (∀ u, Calls Tryd.prog 43 #[.agg #[.int .i64 ((W - 1 : Nat)), .int .i64 ((H + 1 : Nat))], .int .i64 0] u fun e w' => e = .returned (.int .u64 (rowLow (W - 1) : Nat)) ∧ Below u.heap.size u w') := fun u => by
      rw [← sides.1]; exact rowSet_any _ _ 0 (by omega) (by omega) u
    have H1 : Hid (∀ u, Calls Tryd.prog 43 #[.agg #[.int .i64 ((W - 1 : Nat)), .int .i64 ((H + 1 : Nat))], .int .i64 (H : Nat)] u fun e w' => e = .returned (.int .u64 (fdT W H : Nat)) ∧ Below u.heap.size u w') := fun u => by
      rw [show fdT W H = rowLow (W - 1) * 2 ^ ((H + 1 - 1) * (W - 1)) from rfl, ← sides.2, show (((H + 1 : Nat) : Int) - 1) = (H : Int) by omega]; exact rowSet_any _ _ _ (by omega) (by omega) u
    clear h1 h2 sides hp hSS hg
    generalize rowLow (W - 1) = X0 at *
    generalize fdT W H = X1 at *
    generalize passesN W H S = v at *
    generalize notU S = nS at *
    generalize W - 1 = Wm at *
    generalize H + 1 = Hp at *
    go_enter Tryd.func15, Tryd.ntmps15
    go_wp2_with fail
    refine (gridStateOk_any _ _ _ _).mono ?_
    rintro e1 w1 ⟨rfl, hb1⟩
    rw [HS.out]
    have A1 := AreaAt.start w1 W H 40
    obtain ⟨c0, c1, -, -⟩ := id A1
    go_wp2_with fail
    refine (HP.out _).mono ?_
    rintro e2 w2 ⟨rfl, hb2⟩
    have A2 := A1.step hb2
    have D0 : GridAt w1 (w2.alloc (.cells #[.int .i64 (Wm : Nat), .int .i64 (Hp : Nat)] 42)) w1.heap.size w2.heap.size W H (Wm : Nat) (Hp : Nat) := by
      have B := (Below.refl w2.heap.size w2).alloc (by simp) (.cells #[.int .i64 (Wm : Nat), .int .i64 (Hp : Nat)] 42)
      have A3 := A2.step B
      exact ⟨A3.a0, A3.a1, by rw [World.cell?_alloc_at _ _ _ _ (by simp)]; rfl, by rw [World.cell?_alloc_at _ _ _ _ (by simp)]; rfl, A3.l0, by simp, A3.below, (hL.on hb1).on A3.below⟩
    clear A1 A2 c0 c1 hb2
    go_wp2_with fail
    refine wp_region_class (GridAt w1 · w1.heap.size w2.heap.size W H (Wm : Nat) (Hp : Nat)) (by kernel_rfl) (by kernel_rfl) D0.drew ?_
    intro X hX f hf hex
    have k0 : ∀ z, (f z).cell? ⟨w1.heap.size, 0, none⟩ = some (.int .i64 W) := fun z => (hf z).g0
    have k1 : ∀ z, (f z).cell? ⟨w1.heap.size, 1, none⟩ = some (.int .i64 H) := fun z => (hf z).g1
    have k2 : ∀ z, (f z).cell? ⟨w2.heap.size, 0, none⟩ = some (.int .i64 (Wm : Nat)) := fun z => (hf z).a0
    have k3 : ∀ z, (f z).cell? ⟨w2.heap.size, 1, none⟩ = some (.int .i64 (Hp : Nat)) := fun z => (hf z).a1
    repeat (go_big_quiet_step (first
      | (go_at_call 43; with_reducible exact class_of hex (H0.out _) (hf _).on)
      | (go_at_call 43; with_reducible exact class_of hex (H1.out _) (hf _).on)
      | (go_at_call 34; with_reducible exact class_of hex (HX.out _ (hf _).laid) (hf _).on)))
    refine wpQuiet_nil ?_
    rintro _ ⟨z, rfl⟩
    have DX := hf z
    go_wp2_with fail
    go_returns
    exact ⟨retB (by simp), hb1.trans (DX.below.mono hb1.size)⟩

theorem leadsTest_any (s c r : Int) (b0 b1 : Nat) (v : World) (hL : LaidG v) (h0 : v.cell? ⟨b0, 0, none⟩ = some (.int .i64 c)) (h1 : v.cell? ⟨b1, 0, none⟩ = some (.int .i64 r)) :
    Calls Tryd.prog 48 #[.int .i64 s, .pointer (some ⟨b0, 0, none⟩), .pointer (some ⟨b1, 0, none⟩)] v fun e w' => e = .returned (.bool (leadsI s c r)) ∧ Below v.heap.size v w' := by
  go_enter Tryd.func48, Tryd.ntmps48
  go_wp2_with fail
  refine (leadsOk_any _ _ _ _ hL).mono ?_
  rintro e1 w1 ⟨rfl, hb1⟩
  go_wp2_with fail
  go_returns
  exact ⟨rfl, hb1⟩

set_option maxHeartbeats 2000000 in
theorem countLeads_any (c r : Int) (w : World) (hL : LaidG w) : Calls Tryd.prog 19 #[.int .i64 c, .int .i64 r] w (GotInts w (cntLL c r)) := by
  have hmf : ∀ (fn : Fn) (first cap : Array Value) (w : World), (Instr.makeFunc fn first cap).run Tryd.prog w = .ok (.func fn first cap) w := fun _ _ _ _ => rfl
  unfold cntLL
  cases hB : gridOkB c r with
  | false =>
    have HB := Lib.hid hB
    rw [if_neg (by simp)]
    clear hB
    have B2 : Below w.heap.size w ((w.alloc (.cells #[.int .i64 c] 3)).alloc (.cells #[.int .i64 r] 3)) := ((Below.refl _ _).alloc (by simp) _).alloc (by simp) _
    go_enter Tryd.func19, Tryd.ntmps19
    go_wp2_with fail
    refine (gridOk_any _ _ _).mono ?_
    rintro e1 w1 ⟨rfl, hb1⟩
    rw [HB.out]
    have B3 := B2.trans (hb1.mono B2.size)
    go_wp2_with fail
    go_returns
    exact ⟨none, 0, rfl, OwnI.nil _ _, B3⟩
  | true =>
    have HB := Lib.hid hB
    rw [if_pos rfl]
    obtain ⟨C, R, rfl, rfl, hc, hr⟩ := grid_nat hB
    rw [show ((C : Nat) : Int).toNat = C from rfl, show ((R : Nat) : Int).toNat = R from rfl, ← leads_row hc hr]
    have hg := (grid_edges hc hr).2.2
    have hE : gridEI C R = (gridE C R : Nat) := if_pos hB
    have HGE : Hid (∀ u, Calls Tryd.prog 47 #[.int .i64 C, .int .i64 R] u fun e w' => e = .returned (.int .i64 (gridE C R : Nat)) ∧ Below u.heap.size u w') := fun u => by rw [← hE]; exact gridEdges_any C R u
    have hq : ∀ s : Nat, s < 2 ^ gridE C R → leadsI (s : Nat) C R = leadsN C R s := fun s hs => (by
      have h1 : inB (s : Nat) ((2 ^ gridE C R : Nat) : Int) = true := inB_of hs
      unfold leadsI edgeB
      rw [hB, show ((C : Nat) : Int).toNat = C from rfl, show ((R : Nat) : Int).toNat = R from rfl, h1]; rfl)
    generalize leadsN C R = q at *
    generalize gridE C R = n at *
    have HQ := Lib.hid hq
    have B2 : Below w.heap.size w ((w.alloc (.cells #[.int .i64 C] 3)).alloc (.cells #[.int .i64 R] 3)) := ((Below.refl _ _).alloc (by simp) _).alloc (by simp) _
    obtain ⟨u, hu⟩ : ∃ u, u = (w.alloc (.cells #[.int .i64 C] 3)).alloc (.cells #[.int .i64 R] 3) := ⟨_, rfl⟩
    have a0 : u.cell? ⟨w.heap.size, 0, none⟩ = some (.int .i64 C) := by rw [hu, World.cell?_alloc_past _ _ _ (by simp), World.cell?_alloc_at _ _ _ _ (by simp)]; rfl
    have a1 : u.cell? ⟨w.heap.size + 1, 0, none⟩ = some (.int .i64 R) := by rw [hu, World.cell?_alloc_at _ _ _ _ (by simp)]; rfl
    have l0 : w.heap.size < u.heap.size := by rw [hu]; simp <;> omega
    have l1 : w.heap.size + 1 < u.heap.size := by rw [hu]; simp
    rw [← hu] at B2
    have hLu := hL.on B2
    have HCS : Hid (∀ v, Below u.heap.size u v → Calls Tryd.prog 46 #[.int .i64 n, .func (.func 48) #[] #[.pointer (some ⟨w.heap.size, 0, none⟩), .pointer (some ⟨w.heap.size + 1, 0, none⟩)]] v (GotInts v (cntR q (2 ^ n) (n + 1)))) := fun v hv =>
      setsLeads_any _ _ n q v hg fun v2 hv2 s hs => by
        have hv3 := hv.trans (hv2.mono hv.size)
        rw [← HQ.out s hs]
        exact leadsTest_any s C R _ _ v2 (hLu.on hv3) ((hv3.cell l0).trans a0) ((hv3.cell l1).trans a1)
    have HA0 : Hid (∀ v, Below u.heap.size u v → v.cell? ⟨w.heap.size, 0, none⟩ = some (.int .i64 C) ∧ v.cell? ⟨w.heap.size + 1, 0, none⟩ = some (.int .i64 R)) := fun v hv => ⟨(hv.cell l0).trans a0, (hv.cell l1).trans a1⟩
    generalize cntR q (2 ^ n) (n + 1) = L at *
    have HBB := Lib.hid B2
    subst hu
    clear hB hE hq hc hr B2 a0 a1 l0 l1 hLu HQ
    go_enter Tryd.func19, Tryd.ntmps19
    go_wp2_with fail
    refine (gridOk_any _ _ _).mono ?_
    rintro e1 w1 ⟨rfl, hb1⟩
    rw [HB.out]
    obtain ⟨d0, d1⟩ := HA0.out _ hb1
    go_wp2_with fail
    refine (HGE.out _).mono ?_
    rintro e2 w2 ⟨rfl, hb2⟩
    have hb12 := hb1.trans (hb2.mono hb1.size)
    clear d0 d1
    have B3 := HBB.out.trans (hb12.mono HBB.out.size)
    have HC1 := Lib.hid (HCS.out _ hb12)
    clear hb1 hb2 hb12
    go_wp2_with fail
    refine HC1.out.mono ?_
    rintro e3 w3 ⟨A3, k3, rfl, own, hb3⟩
    go_wp2_with fail
    go_returns
    exact ⟨A3, k3, rfl, own.more B3.size, B3.trans (hb3.mono B3.size)⟩
end Go.Proofs.YtcmomghlepmogaaDoor
