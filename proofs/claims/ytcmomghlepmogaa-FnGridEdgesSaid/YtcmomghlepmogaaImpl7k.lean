/- Grids of the program: edges in rows and columns, and between two spots. -/
import Derived.Test.YtcmomghlepmogaaImpl7b
import Derived.Test.YtcmomghlepmogaaImpl7c
import Derived.Test.YtcmomghlepmogaaSides7
import Derived.Test.YtcmomghlepmogaaSpec7g
import Derived.Test.YtcmomghlepmogaaSets
namespace Go.Proofs.Ytcmomghlepmogaa
open Go.RowKit
set_option maxRecDepth 100000

theorem SpotAt.on {w u : World} {b0 b1 c r : Nat} {x y : Int} (h : SpotAt w u b0 b1 c r x y) : ∀ w', Below u.heap.size u w' → SpotAt w w' b0 b1 c r x y := fun _ hb =>
  ⟨(hb.cell h.l0).trans h.a0, (hb.cell h.l0).trans h.a1, (hb.cell h.l1).trans h.s0, (hb.cell h.l1).trans h.s1, Nat.lt_of_lt_of_le h.l0 hb.size, Nat.lt_of_lt_of_le h.l1 hb.size, h.below.trans (hb.mono h.below.size)⟩
theorem SpotAt.drew {w u : World} {b0 b1 c r : Nat} {x y : Int} (h : SpotAt w u b0 b1 c r x y) : SpotAt w u.drew b0 b1 c r x y := h.on _ ((Below.refl _ _).drew)
theorem AreaAt.drew {w u : World} {b0 c r : Nat} (h : AreaAt w u b0 c r) : AreaAt w u.drew b0 c r := h.step ((Below.refl _ _).drew)

theorem inRows_any (w h : Nat) (hw : 1 ≤ w ∧ w ≤ 4) (hh : h ≤ 3) (v : World) :
    Calls Try.prog 20 #[.agg #[.int .i64 w, .int .i64 h]] v fun e w' => e = .returned (.int .i64 (h * (w - 1) : Nat)) ∧ Below v.heap.size v w' := by
  have hm : h * (w - 1) ≤ 3 * 3 := Nat.mul_le_mul hh (by omega)
  have w1 : IntKind.i64.wrap ((w : Int) - 1) = ((w - 1 : Nat) : Int) := by rw [IntWalk.i64_in _ (by omega)]; omega
  have w2 : IntKind.i64.wrap ((h : Int) * ((w - 1 : Nat) : Int)) = ((h * (w - 1) : Nat) : Int) := by rw [← Int.natCast_mul]; exact IntWalk.i64_in _ (by omega)
  generalize h * (w - 1) = m at *
  generalize w - 1 = k at *
  clear hm
  go_enter Try.func20, Try.ntmps20
  go_wp2_with fail
  go_returns
  exact ⟨by first | rfl | simp [*], by go_grown⟩
set_option maxHeartbeats 1000000 in
theorem gridEdgesOf_any (w h : Nat) (hw : 2 ≤ w ∧ w ≤ 4) (hh : 1 ≤ h ∧ h ≤ 3) (v : World) :
    Calls Try.prog 18 #[.agg #[.int .i64 w, .int .i64 h]] v fun e w' => e = .returned (.int .i64 (gridE w h : Nat)) ∧ Below v.heap.size v w' := by
  have A0 := AreaAt.start v w h 38
  have m1 : h * (w - 1) ≤ 3 * 3 := Nat.mul_le_mul hh.2 (by omega)
  have m2 : (h - 1) * (w - 2) ≤ 2 * 2 := Nat.mul_le_mul (by omega) (by omega)
  have HE : Hid (∀ u, Calls Try.prog 20 #[.agg #[.int .i64 w, .int .i64 h]] u fun e w' => e = .returned (.int .i64 (h * (w - 1) : Nat)) ∧ Below u.heap.size u w') := fun u => inRows_any w h (by omega) hh.2 u
  have hg : gridE w h = h * (w - 1) + (h - 1) * (w - 2) := by unfold gridE; rw [Nat.mul_comm (w - 1), Nat.mul_comm (w - 2)]
  rw [hg]
  have b1 : IntKind.i64.wrap ((h : Int) - 1) = ((h - 1 : Nat) : Int) := by rw [IntWalk.i64_in _ (by omega)]; omega
  have b2 : IntKind.i64.wrap ((w : Int) - 2) = ((w - 2 : Nat) : Int) := by rw [IntWalk.i64_in _ (by omega)]; omega
  have a1 : IntKind.i64.wrap (((h - 1 : Nat) : Int) * ((w - 2 : Nat) : Int)) = (((h - 1) * (w - 2) : Nat) : Int) := by rw [← Int.natCast_mul]; exact IntWalk.i64_in _ (by omega)
  have a2 : IntKind.i64.wrap (((h * (w - 1) : Nat) : Int) + (((h - 1) * (w - 2) : Nat) : Int)) = ((h * (w - 1) + (h - 1) * (w - 2) : Nat) : Int) := by rw [← Int.natCast_add]; exact IntWalk.i64_in _ (by omega)
  generalize h * (w - 1) + (h - 1) * (w - 2) = e2 at *
  generalize h * (w - 1) = e1 at *
  generalize (h - 1) * (w - 2) = e0 at *
  generalize w - 2 = k at *
  generalize h - 1 = j at *
  clear m1 m2 hg
  obtain ⟨c0, c1, -, -⟩ := id A0
  go_enter Try.func18, Try.ntmps18
  go_wp2_with fail
  refine wp_region_class (AreaAt v · v.heap.size w h) (by kernel_rfl) (by kernel_rfl) A0.drew ?_
  intro X hX f hf hex
  have k0 : ∀ z, (f z).cell? ⟨v.heap.size, 0, none⟩ = some (.int .i64 w) := fun z => (hf z).a0
  have k1 : ∀ z, (f z).cell? ⟨v.heap.size, 1, none⟩ = some (.int .i64 h) := fun z => (hf z).a1
  repeat (go_big_quiet_step (first
    | (go_at_call 20; with_reducible exact class_of hex (HE.out _) (fun _ hb => (hf _).step hb))))
  refine wpQuiet_nil ?_
  rintro _ ⟨z, rfl⟩
  have DX := hf z
  go_wp2_with fail
  go_returns
  exact ⟨by first | rfl | simp, DX.below⟩
end Go.Proofs.Ytcmomghlepmogaa

/- Grids of the program: the edge between two points, and between two fields. -/
namespace Go.Proofs.Ytcmomghlepmogaa
open Go.RowKit
set_option linter.unusedVariables false
set_option maxRecDepth 100000

/-- Three pairs in cells of the call's own. -/
theorem three_cells (v : World) (a b c d e f : Int) (T T1 T2 : TypeId) : ∀ u, u = ((v.alloc (.cells #[.int .i64 a, .int .i64 b] T)).alloc (.cells #[.int .i64 c, .int .i64 d] T1)).alloc (.cells #[.int .i64 e, .int .i64 f] T2) →
    (u.cell? ⟨v.heap.size, 0, none⟩ = some (.int .i64 a) ∧ u.cell? ⟨v.heap.size, 1, none⟩ = some (.int .i64 b)) ∧ (u.cell? ⟨v.heap.size + 1, 0, none⟩ = some (.int .i64 c) ∧ u.cell? ⟨v.heap.size + 1, 1, none⟩ = some (.int .i64 d)) ∧
    (u.cell? ⟨v.heap.size + 1 + 1, 0, none⟩ = some (.int .i64 e) ∧ u.cell? ⟨v.heap.size + 1 + 1, 1, none⟩ = some (.int .i64 f)) ∧ Below v.heap.size v u := by
  rintro u rfl
  refine ⟨⟨?_, ?_⟩, ⟨?_, ?_⟩, ⟨?_, ?_⟩, (((Below.refl _ _).alloc (by simp) _).alloc (by simp) _).alloc (by simp; omega) _⟩
  · rw [World.cell?_alloc_past _ _ _ (by simp; omega), World.cell?_alloc_past _ _ _ (by simp), World.cell?_alloc_at _ _ _ _ (by simp)]; rfl
  · rw [World.cell?_alloc_past _ _ _ (by simp; omega), World.cell?_alloc_past _ _ _ (by simp), World.cell?_alloc_at _ _ _ _ (by simp)]; rfl
  · rw [World.cell?_alloc_past _ _ _ (by simp), World.cell?_alloc_at _ _ _ _ (by simp)]; rfl
  · rw [World.cell?_alloc_past _ _ _ (by simp), World.cell?_alloc_at _ _ _ _ (by simp)]; rfl
  · rw [World.cell?_alloc_at _ _ _ _ (by simp)]; rfl
  · rw [World.cell?_alloc_at _ _ _ _ (by simp)]; rfl

end Go.Proofs.Ytcmomghlepmogaa

/- Grids of the program: what open edges lead to. -/
namespace Go.Proofs.Ytcmomghlepmogaa
open Go.RowKit
set_option linter.unusedVariables false
set_option maxRecDepth 100000

theorem StepAt.cells {w u : World} {b0 b1 b2 c r : Nat} {x y dx dy : Int} (h : StepAt w u b0 b1 b2 c r x y dx dy) : (u.cell? ⟨b0, 0, none⟩ = some (.int .i64 c) ∧ u.cell? ⟨b0, 1, none⟩ = some (.int .i64 r)) ∧ (u.cell? ⟨b1, 0, none⟩ = some (.int .i64 x) ∧ u.cell? ⟨b1, 1, none⟩ = some (.int .i64 y)) ∧ u.cell? ⟨b2, 0, none⟩ = some (.int .i64 dx) ∧ u.cell? ⟨b2, 1, none⟩ = some (.int .i64 dy) := ⟨⟨h.a0, h.a1⟩, ⟨h.s0, h.s1⟩, h.d0, h.d1⟩
theorem sideN_lt16 {c r : Nat} {O : Int → Int → Option Nat} {K : Nat} {ps : List (Int × Int)} {x y : Int} (hc : c ≤ 4) (hr : r ≤ 4) (k : Nat) : sideN c r O K ps x y k < 2 ^ 16 :=
  Nat.lt_of_lt_of_le (side_lt k) (Nat.pow_le_pow_right (by omega) (show c * r ≤ 4 * 4 from Nat.mul_le_mul hc hr))

end Go.Proofs.Ytcmomghlepmogaa

/- Grids of the program: LeadsOk, PassesOk, CountLeads. -/
namespace Go.Proofs.Ytcmomghlepmogaa
open Go.RowKit
set_option linter.unusedVariables false
set_option maxRecDepth 100000

theorem gridOk_any (c r : Int) (w : World) : Calls Try.prog 8 #[.int .i64 c, .int .i64 r] w fun e w' => e = .returned (.bool (gridOkB c r)) ∧ Below w.heap.size w w' := by
  go_enter Try.func8, Try.ntmps8
  go_wp2_with fail
  all_goals go_returns
  all_goals exact ⟨retB (by first | (simp [gridOkB, *]; done) | (simp [gridOkB, *]; omega)), Below.refl _ _⟩
theorem gridEdges_any (c r : Int) (w : World) : Calls Try.prog 12 #[.int .i64 c, .int .i64 r] w fun e w' => e = .returned (.int .i64 (gridEI c r)) ∧ Below w.heap.size w w' := by
  unfold gridEI
  cases hB : gridOkB c r with
  | false =>
    have HB := Lib.hid hB
    rw [if_neg (by simp)]
    clear hB
    go_enter Try.func12, Try.ntmps12
    go_wp2_with fail
    refine (gridOk_any _ _ _).mono ?_
    rintro e1 w1 ⟨rfl, hb1⟩
    rw [HB.out]
    go_wp2_with fail
    go_returns
    exact ⟨rfl, hb1⟩
  | true =>
    have HB := Lib.hid hB
    rw [if_pos rfl]
    obtain ⟨C, R, rfl, rfl, hc, hr⟩ := grid_nat hB
    rw [show ((C : Nat) : Int).toNat = C from rfl, show ((R : Nat) : Int).toNat = R from rfl]
    clear hB
    go_enter Try.func12, Try.ntmps12
    go_wp2_with fail
    refine (gridOk_any _ _ _).mono ?_
    rintro e1 w1 ⟨rfl, hb1⟩
    rw [HB.out]
    go_wp2_with fail
    refine (gridEdgesOf_any C R hc hr _).mono ?_
    rintro e2 w2 ⟨rfl, hb2⟩
    go_wp2_with fail
    go_returns
    exact ⟨rfl, hb1.trans (hb2.mono hb1.size)⟩
def obP (w h x y x' y' : Nat) : Bool := decide (setO (ptO w h x y (x' : Nat) (y' : Nat)) < 65536)
def obF (w h x y x' y' : Nat) : Bool := decide (setO (fdO w h x y (x' : Nat) (y' : Nat)) < 65536)
theorem obP_all : ∀ w, w < 5 → ∀ h, h < 4 → ∀ x, x < w → ∀ y, y < h → ∀ x', x' < w → ∀ y', y' < h → obP w h x y x' y' = true := by decide +kernel
theorem obF_all : ∀ w, w < 5 → ∀ h, h < 4 → ∀ x, x < w - 1 → ∀ y, y < h + 1 → ∀ x', x' < w - 1 → ∀ y', y' < h + 1 → obF w h x y x' y' = true := by decide +kernel

/-- What an open walk's next spots are told by: the area, the open edges, the function between, one spot. -/
structure OpenAt (w u : World) (b0 b1 b2 c r K : Nat) (fv : Value) : Prop where
  a0 : u.cell? ⟨b0, 0, none⟩ = some (.int .i64 c)
  a1 : u.cell? ⟨b0, 1, none⟩ = some (.int .i64 r)
  k0 : u.cell? ⟨b1, 0, none⟩ = some (.int .u64 K)
  f0 : u.cell? ⟨b2, 0, none⟩ = some fv
  l0 : b0 < u.heap.size
  l1 : b1 < u.heap.size
  l2 : b2 < u.heap.size
  below : Below w.heap.size w u
theorem OpenAt.on {w u : World} {b0 b1 b2 c r K : Nat} {fv : Value} (h : OpenAt w u b0 b1 b2 c r K fv) : ∀ w', Below u.heap.size u w' → OpenAt w w' b0 b1 b2 c r K fv := fun _ hb =>
  ⟨(hb.cell h.l0).trans h.a0, (hb.cell h.l0).trans h.a1, (hb.cell h.l1).trans h.k0, (hb.cell h.l2).trans h.f0,
    Nat.lt_of_lt_of_le h.l0 hb.size, Nat.lt_of_lt_of_le h.l1 hb.size, Nat.lt_of_lt_of_le h.l2 hb.size, h.below.trans (hb.mono h.below.size)⟩
theorem OpenAt.start (w : World) (c r K : Nat) (fv : Value) (T T1 T2 : TypeId) : OpenAt w (((w.alloc (.cells #[.int .i64 c, .int .i64 r] T)).alloc (.cells #[.int .u64 K] T1)).alloc (.cells #[fv] T2)) w.heap.size (w.heap.size + 1) (w.heap.size + 1 + 1) c r K fv :=
  ⟨by rw [World.cell?_alloc_past _ _ _ (by simp; omega), World.cell?_alloc_past _ _ _ (by simp), World.cell?_alloc_at _ _ _ _ (by simp)]; rfl,
    by rw [World.cell?_alloc_past _ _ _ (by simp; omega), World.cell?_alloc_past _ _ _ (by simp), World.cell?_alloc_at _ _ _ _ (by simp)]; rfl,
    by rw [World.cell?_alloc_past _ _ _ (by simp), World.cell?_alloc_at _ _ _ _ (by simp)]; rfl, by rw [World.cell?_alloc_at _ _ _ _ (by simp)]; rfl,
    by simp <;> omega, by simp <;> omega, by simp, (((Below.refl _ _).alloc (by simp) _).alloc (by simp) _).alloc (by simp; omega) _⟩

theorem notk_key : ∀ S : Nat, S < 8192 → Go.bits .xor .u64 (if IntKind.u64.signed = true then -1 else IntKind.u64.max) (S : Int) = ((notU S : Nat) : Int) :=
  all13 (by decide +kernel) (by decide +kernel) (by decide +kernel) (by decide +kernel) (by decide +kernel) (by decide +kernel) (by decide +kernel) (by decide +kernel)

end Go.Proofs.Ytcmomghlepmogaa
