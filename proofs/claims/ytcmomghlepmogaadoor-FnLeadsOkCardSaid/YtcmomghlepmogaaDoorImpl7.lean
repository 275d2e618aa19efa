/- Areas of the program: tables of steps that lie in memory, spots, sets of bits. -/
import Derived.Test.YtcmomghlepmogaaDoorWalk7
import Derived.Test.YtcmomghlepmogaaDoorRow
import Derived.Test.YtcmomghlepmogaaDoorClass
import Derived.Lib.TrailingZeros
import Derived.Deep.QuietTactic
import Derived.BigQuiet
import Derived.BigRegion
import Derived.Handy
namespace Go.Proofs.YtcmomghlepmogaaDoor
open Go.RowKit
set_option maxRecDepth 100000

/-- A table of integers lies in a block. -/
def TabAt (w : World) (g : Nat) (k : IntKind) (zs : List Int) : Prop := g < w.heap.size ∧ ∀ i, i < zs.length → w.cell? ⟨g, i, none⟩ = some (.int k (zs.getD i 0))
theorem TabAt.on {w w' : World} {b g : Nat} {k : IntKind} {zs : List Int} (h : TabAt w g k zs) (hb : Below b w w') (hg : g < b) : TabAt w' g k zs :=
  ⟨Nat.lt_of_lt_of_le h.1 hb.size, fun i hi => (hb.cell (p := ⟨g, i, none⟩) hg).trans (h.2 i hi)⟩
def flatOf (ps : List (Int × Int)) : List Int := ps.flatMap fun p => [p.1, p.2]
def LaidT (w : World) : Prop := TabAt w 1 .i64 (flatOf tSteps)
def LaidS (w : World) : Prop := TabAt w 0 .i64 (flatOf sSteps)
def LaidZ (w : World) : Prop := TabAt w 3 .u8 (Lib.deBruijn64tab.map Int.ofNat)
theorem LaidT.on {w w' : World} (h : LaidT w) (hb : Below w.heap.size w w') : LaidT w' := TabAt.on h hb h.1
theorem LaidS.on {w w' : World} (h : LaidS w) (hb : Below w.heap.size w w') : LaidS w' := TabAt.on h hb h.1
theorem LaidZ.on {w w' : World} (h : LaidZ w) (hb : Below w.heap.size w w') : LaidZ w' := TabAt.on h hb h.1
/-- What boards read: the steps to cells that touch, and the table of lowest bits. -/
structure LaidB (w : World) : Prop where
  t : LaidT w
  z : LaidZ w
theorem LaidB.on {w w' : World} (h : LaidB w) (hb : Below w.heap.size w w') : LaidB w' := ⟨h.t.on hb, h.z.on hb⟩
/-- What grids read. -/
structure LaidG (w : World) : Prop where
  s : LaidS w
  z : LaidZ w
theorem LaidG.on {w w' : World} (h : LaidG w) (hb : Below w.heap.size w w') : LaidG w' := ⟨h.s.on hb, h.z.on hb⟩
structure LaidA (w : World) : Prop where
  b : LaidB w
  g : LaidG w
theorem LaidA.on {w w' : World} (h : LaidA w) (hb : Below w.heap.size w w') : LaidA w' := ⟨h.b.on hb, h.g.on hb⟩

theorem spotAfter_any (x y dx dy : Int) (h : -100 ≤ x ∧ x ≤ 100 ∧ -100 ≤ y ∧ y ≤ 100) (hd : -100 ≤ dx ∧ dx ≤ 100 ∧ -100 ≤ dy ∧ dy ≤ 100) (w : World) :
    Calls Tryd.prog 71 #[.agg #[.int .i64 x, .int .i64 y], .agg #[.int .i64 dx, .int .i64 dy]] w fun e w' => e = .returned (.agg #[.int .i64 (x + dx), .int .i64 (y + dy)]) ∧ Below w.heap.size w w' := by
  have w1 : IntKind.i64.wrap (x + dx) = x + dx := IntWalk.i64_in _ (by omega)
  have w2 : IntKind.i64.wrap (y + dy) = y + dy := IntWalk.i64_in _ (by omega)
  clear h hd
  go_enter Tryd.func71, Tryd.ntmps71
  go_wp2_with fail
  go_returns
  exact ⟨by first | rfl | simp [w1, w2], by go_grown⟩

theorem shl_small : ∀ k, k ≤ 15 → IntKind.u64.wrap (2 ^ k) = ((2 ^ k : Nat) : Int) := by decide
theorem only_any (c r : Nat) (x y : Int) (hc : c ≤ 4) (hr : r ≤ 4) (w : World) :
    Calls Tryd.prog 60 #[.agg #[.int .i64 c, .int .i64 r], .agg #[.int .i64 x, .int .i64 y]] w fun e w' => e = .returned (.int .u64 (onlyN c r x y : Nat)) ∧ Below w.heap.size w w' := by
  by_cases h : 0 ≤ x ∧ x < c ∧ 0 ≤ y ∧ y < r
  · have HV : Hid (onlyN c r x y = 2 ^ (y.toNat * c + x.toNat)) := if_pos h
    obtain ⟨X, rfl⟩ : ∃ X : Nat, x = X := ⟨x.toNat, by omega⟩
    obtain ⟨Y, rfl⟩ : ∃ Y : Nat, y = Y := ⟨y.toNat, by omega⟩
    have hm : Y * c ≤ 12 := Nat.mul_le_mul (show Y ≤ 3 by omega) hc
    rw [HV.out, show ((Y : Nat) : Int).toNat = Y from rfl, show ((X : Nat) : Int).toNat = X from rfl]
    have wm : IntKind.i64.wrap ((Y : Int) * (c : Int)) = ((Y * c : Nat) : Int) := by rw [← Int.natCast_mul]; exact IntWalk.i64_in _ (by omega)
    have wa : IntKind.i64.wrap (((Y * c : Nat) : Int) + (X : Int)) = ((Y * c + X : Nat) : Int) := by rw [← Int.natCast_add]; exact IntWalk.i64_in _ (by omega)
    have hk : Y * c + X ≤ 15 := by omega
    generalize Y * c + X = k at *
    generalize Y * c = m at *
    have t1 : decide ((X : Int) < 0) = false := by simp
    have t2 : decide ((c : Int) ≤ (X : Int)) = false := by simp; omega
    have t3 : decide ((Y : Int) < 0) = false := by simp
    have t4 : decide ((r : Int) ≤ (Y : Int)) = false := by simp; omega
    have hP := shl_small k hk
    have hX : X < c := by omega
    have hY : Y < r := by omega
    clear h hm
    go_enter Tryd.func60, Tryd.ntmps60
    go_wp2_with fail
    go_returns
    exact ⟨by first | rfl | simp [hP], by go_grown⟩
  · have HV : Hid (onlyN c r x y = 0) := if_neg h
    rw [HV.out]
    go_enter Tryd.func60, Tryd.ntmps60
    go_wp2_with fail
    all_goals first
      | (go_returns; exact ⟨rfl, by go_grown⟩)
      | (exfalso; omega)

theorem spotOf_any (c r a : Nat) (hc : 1 ≤ c ∧ c ≤ 4) (ha : a ≤ 4096) (w : World) :
    Calls Tryd.prog 70 #[.agg #[.int .i64 c, .int .i64 r], .int .i64 a] w fun e w' => e = .returned (.agg #[.int .i64 (a % c : Nat), .int .i64 (a / c : Nat)]) ∧ Below w.heap.size w w' := by
  have t1 : (a : Int).tmod (c : Int) = ((a % c : Nat) : Int) := by rw [Int.natCast_emod, Int.tmod_eq_emod_of_nonneg (by omega)]
  have t3 : (a : Int).tdiv (c : Int) = ((a / c : Nat) : Int) := by rw [Int.natCast_ediv, Int.tdiv_eq_ediv_of_nonneg (by omega)]
  have b1 : a % c ≤ a := Nat.mod_le _ _
  have b3 : a / c ≤ a := Nat.div_le_self _ _
  generalize a % c = X at *
  generalize a / c = Y at *
  have u1 : IntKind.i64.wrap (X : Int) = (X : Int) := IntWalk.i64_in _ (by omega)
  have u2 : IntKind.i64.wrap (Y : Int) = (Y : Int) := IntWalk.i64_in _ (by omega)
  have z0 : ((c : Int) == 0) = false := by rw [beq_eq_false_iff_ne]; omega
  have zm : ((c : Int) == -1) = false := by rw [beq_eq_false_iff_ne]; omega
  have z1 : ¬ (c : Int) = 0 := by omega
  clear b1 b3 ha hc
  go_enter Tryd.func70, Tryd.ntmps70
  go_wp2_with fail
  go_region
  go_wp2_with fail
  go_returns
  exact ⟨by first | rfl | simp [*], by go_grown⟩

theorem tz_key : ∀ x : Nat, x < 4096 → 0 < x → Go.bits .and .u64 (x : Int) (IntKind.u64.wrap (-(x : Int))) = ((2 ^ Lib.ctz 12 x : Nat) : Int) ∧ Lib.ctz 12 x < 12 ∧ x.testBit (Lib.ctz 12 x) = true := by decide +kernel
theorem tz64_any (x : Nat) (h0 : 0 < x) (hx : x < 4096) (w : World) (hL : LaidZ w) :
    Calls Tryd.prog 80 #[.int .u64 x] w fun e w' => e = .returned (.int .i64 (Lib.ctz 12 x : Nat)) ∧ w = w' := by
  obtain ⟨hy, hk, -⟩ := tz_key x hx h0
  have hz : ((x : Int) == 0) = false := by rw [beq_eq_false_iff_ne]; omega
  have HC := hL.2
  clear hL
  generalize Lib.ctz 12 x = k at *
  have hkk : k = 0 ∨ k = 1 ∨ k = 2 ∨ k = 3 ∨ k = 4 ∨ k = 5 ∨ k = 6 ∨ k = 7 ∨ k = 8 ∨ k = 9 ∨ k = 10 ∨ k = 11 := by omega
  have c0 : w.cell? ⟨3, 0, none⟩ = some (.int .u8 0) := HC 0 (by decide)
  have c1 : w.cell? ⟨3, 1, none⟩ = some (.int .u8 1) := HC 1 (by decide)
  have c2 : w.cell? ⟨3, 3, none⟩ = some (.int .u8 2) := HC 3 (by decide)
  have c3 : w.cell? ⟨3, 7, none⟩ = some (.int .u8 3) := HC 7 (by decide)
  have c4 : w.cell? ⟨3, 15, none⟩ = some (.int .u8 4) := HC 15 (by decide)
  have c5 : w.cell? ⟨3, 31, none⟩ = some (.int .u8 5) := HC 31 (by decide)
  have c6 : w.cell? ⟨3, 63, none⟩ = some (.int .u8 6) := HC 63 (by decide)
  have c7 : w.cell? ⟨3, 62, none⟩ = some (.int .u8 7) := HC 62 (by decide)
  have c8 : w.cell? ⟨3, 61, none⟩ = some (.int .u8 8) := HC 61 (by decide)
  have c9 : w.cell? ⟨3, 59, none⟩ = some (.int .u8 9) := HC 59 (by decide)
  have c10 : w.cell? ⟨3, 55, none⟩ = some (.int .u8 10) := HC 55 (by decide)
  have c11 : w.cell? ⟨3, 47, none⟩ = some (.int .u8 11) := HC 47 (by decide)
  clear HC hk
  have m7 : IntKind.u64.wrap 36591387270573294720 = 18144643196863743104 := by decide
  have m8 : IntKind.u64.wrap 73182774541146589440 = 17842542320017934592 := by decide
  have m9 : IntKind.u64.wrap 146365549082293178880 = 17238340566326317568 := by decide
  have m10 : IntKind.u64.wrap 292731098164586357760 = 16029937058943083520 := by decide
  have m11 : IntKind.u64.wrap 585462196329172715520 = 13613130044176615424 := by decide
  rcases hkk with rfl | rfl | rfl | rfl | rfl | rfl | rfl | rfl | rfl | rfl | rfl | rfl
  all_goals
    go_enter Tryd.func80, Tryd.ntmps80
    go_wp2_with fail
    go_returns
    exact ⟨by first | rfl | simp, rfl⟩
theorem lowest_any (x : Nat) (h0 : 0 < x) (hx : x < 4096) (w : World) (hL : LaidZ w) :
    Calls Tryd.prog 69 #[.int .u64 x] w fun e w' => ∃ i : Nat, e = .returned (.int .i64 i) ∧ i < 12 ∧ x.testBit i = true ∧ w = w' := by
  obtain ⟨-, hk, hb⟩ := tz_key x hx h0
  have HT : Hid (∀ u, LaidZ u → Calls Tryd.prog 80 #[.int .u64 x] u fun e w' => e = .returned (.int .i64 (Lib.ctz 12 x : Nat)) ∧ u = w') := fun u hu => tz64_any x h0 hx u hu
  generalize Lib.ctz 12 x = k at *
  have hx2 : (x : Int) < 4096 := by omega
  go_enter Tryd.func69, Tryd.ntmps69
  go_wp2_with fail
  go_enter Tryd.func76, Tryd.ntmps76
  go_wp2_with fail
  refine (HT.out _ hL).mono ?_
  rintro e1 w1 ⟨rfl, rfl⟩
  go_wp2_with fail
  go_returns
  exact ⟨k, rfl, hk, hb, rfl⟩
end Go.Proofs.YtcmomghlepmogaaDoor
