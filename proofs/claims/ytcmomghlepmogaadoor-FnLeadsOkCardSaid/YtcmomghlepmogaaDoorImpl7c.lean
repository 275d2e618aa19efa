/- Areas of the program: sides, and what leads from one set of spots to another one. -/
import Derived.Test.YtcmomghlepmogaaDoorImpl7
import Derived.Test.YtcmomghlepmogaaDoorBitsU
namespace Go.Proofs.YtcmomghlepmogaaDoor
open Go.RowKit
set_option maxRecDepth 100000

theorem onlyc_lt {c r : Nat} {x y : Int} (hc : c ≤ 4) (hr : r ≤ 4) : onlyN c r x y ≤ 32768 := by
  unfold onlyN
  split
  · rename_i h
    have hm : y.toNat * c ≤ 3 * 4 := Nat.mul_le_mul (by omega) hc
    have : y.toNat * c + x.toNat ≤ 15 := by omega
    exact Nat.pow_le_pow_right (n := 2) (by omega) this
  · omega
def colsN (c r : Nat) (x : Int) : Nat → Nat
  | 0 => 0
  | k + 1 => colsN c r x k ||| onlyN c r x (k : Nat)
def rowsN (c r : Nat) (y : Int) : Nat → Nat
  | 0 => 0
  | k + 1 => rowsN c r y k ||| onlyN c r (k : Nat) y
theorem colsN_lt {c r : Nat} {x : Int} (hc : c ≤ 4) (hr : r ≤ 4) : ∀ k, colsN c r x k < 2 ^ 16
  | 0 => by unfold colsN; omega
  | k + 1 => by
    unfold colsN
    have := onlyc_lt (c := c) (r := r) (x := x) (y := (k : Nat)) hc hr
    exact Nat.or_lt_two_pow (colsN_lt hc hr k) (by omega)
theorem rowsN_lt {c r : Nat} {y : Int} (hc : c ≤ 4) (hr : r ≤ 4) : ∀ k, rowsN c r y k < 2 ^ 16
  | 0 => by unfold rowsN; omega
  | k + 1 => by
    unfold rowsN
    have := onlyc_lt (c := c) (r := r) (x := (k : Nat)) (y := y) hc hr
    exact Nat.or_lt_two_pow (rowsN_lt hc hr k) (by omega)
theorem col_sides : ∀ c, c < 5 → ∀ r, r < 5 → 1 ≤ c → colsN c r 0 r = colL c r ∧ colsN c r ((c : Int) - 1) r = colR c r := by decide +kernel
theorem row_sides : ∀ c, c < 5 → ∀ r, r < 5 → 1 ≤ c → 1 ≤ r → rowsN c r 0 c = rowLow c ∧ rowsN c r ((r : Int) - 1) c = rowLow c * 2 ^ ((r - 1) * c) := by decide +kernel
structure AreaAt (w u : World) (b0 : Nat) (c r : Nat) : Prop where
  a0 : u.cell? ⟨b0, 0, none⟩ = some (.int .i64 c)
  a1 : u.cell? ⟨b0, 1, none⟩ = some (.int .i64 r)
  l0 : b0 < u.heap.size
  below : Below w.heap.size w u
theorem AreaAt.step {w u u' : World} {b0 c r : Nat} (h : AreaAt w u b0 c r) (hb : Below u.heap.size u u') : AreaAt w u' b0 c r :=
  ⟨(hb.cell h.l0).trans h.a0, (hb.cell h.l0).trans h.a1, Nat.lt_of_lt_of_le h.l0 hb.size, h.below.trans (hb.mono h.below.size)⟩
theorem AreaAt.start (w : World) (c r : Nat) (T : TypeId) : AreaAt w (w.alloc (.cells #[.int .i64 c, .int .i64 r] T)) w.heap.size c r :=
  ⟨by rw [World.cell?_alloc_at _ _ _ _ (by simp)]; rfl, by rw [World.cell?_alloc_at _ _ _ _ (by simp)]; rfl, by simp, (Below.refl _ _).alloc (by simp) _⟩

set_option maxHeartbeats 1000000 in
theorem columnSet_any (c r : Nat) (x : Int) (hc : c ≤ 4) (hr : r ≤ 4) (w : World) :
    Calls Tryd.prog 35 #[.agg #[.int .i64 c, .int .i64 r], .int .i64 x] w fun e w' => e = .returned (.int .u64 (colsN c r x r : Nat)) ∧ Below w.heap.size w w' := by
  have A0 := AreaAt.start w c r 42
  obtain ⟨c0, c1, -, -⟩ := id A0
  go_enter Tryd.func35, Tryd.ntmps35
  go_wp2_with fail
  go_loopw [5, 9] (fun m k wr => ∃ K : Nat, K ≤ r ∧ k = .int .i64 (K : Nat) ∧ m = .int .u64 (colsN c r x K : Nat) ∧ AreaAt w wr w.heap.size c r) (fun _ k _ => r - (intOf k).toNat)
  case atStart => exact ⟨0, by omega, rfl, rfl, A0⟩
  case round =>
    clear A0 c0 c1
    obtain ⟨K, hK, rfl, rfl, A1⟩ := hrel
    obtain ⟨c0, c1, -, -⟩ := id A1
    by_cases hlt : K < r
    · have b1 : colsN c r x K < 2 ^ 16 := colsN_lt hc hr _
      have b2 := onlyc_lt (c := c) (r := r) (x := x) (y := (K : Nat)) hc hr
      have wo : Go.bits .or .u64 ((colsN c r x K : Nat) : Int) ((onlyN c r (x) ((K : Nat)) : Nat) : Int) = ((colsN c r x (K + 1) : Nat) : Int) := or_u (by omega) (by omega)
      have HO : Hid (∀ u, Calls Tryd.prog 60 #[.agg #[.int .i64 c, .int .i64 r], .agg #[.int .i64 (x), .int .i64 ((K : Nat))]] u fun e w' => e = .returned (.int .u64 (onlyN c r (x) ((K : Nat)) : Nat)) ∧ Below u.heap.size u w') := fun u => only_any _ _ _ _ hc hr u
      generalize onlyN c r (x) ((K : Nat)) = o at *
      obtain ⟨M1, hM1⟩ : ∃ M1, colsN c r x (K + 1) = M1 := ⟨_, rfl⟩
      rw [hM1] at wo
      have HM1 := Lib.hid hM1
      clear hM1
      generalize colsN c r x K = m0 at *
      go_wp2_with fail
      refine (HO.out _).mono ?_
      rintro e1 w1 ⟨rfl, hb1⟩
      have A2 := A1.step hb1
      go_wp2_with fail
      go_roundw
      case rel => exact ⟨K + 1, by omega, by go_num, by rw [HM1.out], A2⟩
      case measure => simp [intOf]; omega
    · obtain rfl : K = r := by omega
      go_wp2_with fail
      go_returns
      exact ⟨rfl, A1.below⟩

set_option maxHeartbeats 1000000 in
theorem rowSet_any (c r : Nat) (x : Int) (hc : c ≤ 4) (hr : r ≤ 4) (w : World) :
    Calls Tryd.prog 43 #[.agg #[.int .i64 c, .int .i64 r], .int .i64 x] w fun e w' => e = .returned (.int .u64 (rowsN c r x c : Nat)) ∧ Below w.heap.size w w' := by
  have A0 := AreaAt.start w c r 42
  obtain ⟨c0, c1, -, -⟩ := id A0
  go_enter Tryd.func43, Tryd.ntmps43
  go_wp2_with fail
  go_loopw [5, 9] (fun m k wr => ∃ K : Nat, K ≤ c ∧ k = .int .i64 (K : Nat) ∧ m = .int .u64 (rowsN c r x K : Nat) ∧ AreaAt w wr w.heap.size c r) (fun _ k _ => c - (intOf k).toNat)
  case atStart => exact ⟨0, by omega, rfl, rfl, A0⟩
  case round =>
    clear A0 c0 c1
    obtain ⟨K, hK, rfl, rfl, A1⟩ := hrel
    obtain ⟨c0, c1, -, -⟩ := id A1
    by_cases hlt : K < c
    · have b1 : rowsN c r x K < 2 ^ 16 := rowsN_lt hc hr _
      have b2 := onlyc_lt (c := c) (r := r) (x := (K : Nat)) (y := x) hc hr
      have wo : Go.bits .or .u64 ((rowsN c r x K : Nat) : Int) ((onlyN c r ((K : Nat)) (x) : Nat) : Int) = ((rowsN c r x (K + 1) : Nat) : Int) := or_u (by omega) (by omega)
      have HO : Hid (∀ u, Calls Tryd.prog 60 #[.agg #[.int .i64 c, .int .i64 r], .agg #[.int .i64 ((K : Nat)), .int .i64 (x)]] u fun e w' => e = .returned (.int .u64 (onlyN c r ((K : Nat)) (x) : Nat)) ∧ Below u.heap.size u w') := fun u => only_any _ _ _ _ hc hr u
      generalize onlyN c r ((K : Nat)) (x) = o at *
      obtain ⟨M1, hM1⟩ : ∃ M1, rowsN c r x (K + 1) = M1 := ⟨_, rfl⟩
      rw [hM1] at wo
      have HM1 := Lib.hid hM1
      clear hM1
      generalize rowsN c r x K = m0 at *
      go_wp2_with fail
      refine (HO.out _).mono ?_
      rintro e1 w1 ⟨rfl, hb1⟩
      have A2 := A1.step hb1
      go_wp2_with fail
      go_roundw
      case rel => exact ⟨K + 1, by omega, by go_num, by rw [HM1.out], A2⟩
      case measure => simp [intOf]; omega
    · obtain rfl : K = c := by omega
      go_wp2_with fail
      go_returns
      exact ⟨rfl, A1.below⟩

set_option maxHeartbeats 4000000 in
theorem leadsCells_any (c r n F G : Nat) (M : Nat → Nat) (b0 b1 : Nat) (u : World) (hL : LaidZ u) (hc : 1 ≤ c ∧ c ≤ 4) (hn : n ≤ 12) (hF : F < 2 ^ n) (hG : G < 2 ^ 16) (hM : ∀ i, i < n → M i < 2 ^ n)
    (HK : ∀ v, Below u.heap.size u v → ∀ i : Nat, i < n → Calls Tryd.prog 74 #[.agg #[.int .i64 (i % c : Nat), .int .i64 (i / c : Nat)], .pointer (some ⟨b0, 0, none⟩), .pointer (some ⟨b1, 0, none⟩)] v fun e w' => e = .returned (.int .u64 (M i : Nat)) ∧ Below v.heap.size v w') :
    Calls Tryd.prog 57 #[.agg #[.int .i64 c, .int .i64 r], .int .u64 F, .int .u64 G, .func (.func 74) #[] #[.pointer (some ⟨b0, 0, none⟩), .pointer (some ⟨b1, 0, none⟩)]] u fun e w' => ∃ D : Nat, Walk7 (fun a b => (M a).testBit b) n F D 0 ∧ e = .returned (.bool (!(D &&& G == 0))) ∧ Below u.heap.size u w' := by
  have h12 : 2 ^ n ≤ 2 ^ 12 := Nat.pow_le_pow_right (by omega) hn
  have W0 : Hid (Walk7 (fun a b => (M a).testBit b) n F F F) := Walk7.begin hF
  obtain ⟨P, hP⟩ : ∃ P, 2 ^ n = P := ⟨_, rfl⟩
  have HP := Lib.hid hP
  have HC := Lib.hid HK
  rw [hP] at h12 hF hM
  have hP4 : P ≤ 4096 := h12
  have HM := Lib.hid hM
  clear HK hP h12 hM
  have A0 := AreaAt.start u c r 42
  obtain ⟨c0, c1, -, -⟩ := id A0
  go_enter Tryd.func57, Tryd.ntmps57
  go_wp2_with fail
  go_loopw [9, 10] (fun d g wr => ∃ D E : Nat, Hid (Walk7 (fun a b => (M a).testBit b) n F D E) ∧ d = .int .u64 (D : Nat) ∧ g = .int .u64 (E : Nat) ∧ AreaAt u wr u.heap.size c r) (fun d g _ => P - ((intOf d).toNat - ((intOf d).toNat &&& (intOf g).toNat)))
  case atStart => exact ⟨F, F, W0, rfl, rfl, A0⟩
  case round =>
    clear A0 c0 c1 W0
    obtain ⟨D, E, W1, rfl, rfl, A1⟩ := hrel
    obtain ⟨c0, c1, -, -⟩ := id A1
    have hD : D < P := by have := W1.out.lt; rwa [HP.out] at this
    have hE : E ≤ D := by
      have h : E &&& D = E := by
        refine Nat.eq_of_testBit_eq fun i => ?_
        rw [Nat.testBit_and]
        cases he : E.testBit i with
        | false => rfl
        | true => rw [W1.out.sub i he]; rfl
      rw [← h]; exact Nat.and_le_right
    by_cases hlt : E < 1
    · obtain rfl : E = 0 := by omega
      have wa : Go.bits .and .u64 (D : Int) (G : Int) = ((D &&& G : Nat) : Int) := and_u (by omega) (by omega)
      have HR : Hid ((D &&& G == 0) = (((D &&& G : Nat) : Int) == 0)) := by
        rw [Hid, Bool.eq_iff_iff, beq_iff_eq, beq_iff_eq]; omega
      have BB := A1.below
      generalize hx : D &&& G = x at *
      have HX := Lib.hid hx
      clear hx
      go_wp2_with fail
      go_returns
      exact ⟨D, W1.out, retB (by rw [HX.out, HR.out]; first | rfl | simp), BB⟩
    · have h0 : 0 < E := by omega
      have hE4 : E < 4096 := by omega
      have hz : ((E : Int) == 0) = false := by rw [beq_eq_false_iff_ne]; omega
      have hLr : LaidZ wr := hL.on A1.below
      go_wp2_with fail
      refine (lowest_any E h0 hE4 _ hLr).mono ?_
      rintro e1 w1 ⟨i, rfl, hi, hbit, rfl⟩
      have hin : i < n := by
        refine Nat.lt_of_not_le fun hn => ?_
        have := W1.out.sub i hbit
        rw [Nat.testBit_lt_two_pow (Nat.lt_of_lt_of_le W1.out.lt (Nat.pow_le_pow_right (by omega) hn))] at this; cases this
      have hMi := HM.out i hin
      have S1 := W1.out.step hbit (M := M i) (by rw [HP.out]; exact hMi) (fun b _ => rfl)
      have S2 := walk_less (M := M i) W1.out.sub hbit
      have SL := S1.lt
      rw [HP.out] at SL
      have hcall := HC.out wr A1.below i hin
      have hs := shl_small i (by omega)
      have hp : 2 ^ i ≤ 2 ^ 12 := Nat.pow_le_pow_right (by omega) (by omega)
      have HSP : Hid (∀ v, Calls Tryd.prog 70 #[.agg #[.int .i64 c, .int .i64 r], .int .i64 i] v fun e w' => e = .returned (.agg #[.int .i64 (i % c : Nat), .int .i64 (i / c : Nat)]) ∧ Below v.heap.size v w') := fun v => spotOf_any c r i hc (by omega) v
      have HC2 : Hid (∀ v, Below u.heap.size u v → Calls Tryd.prog 74 #[.agg #[.int .i64 (i % c : Nat), .int .i64 (i / c : Nat)], .pointer (some ⟨b0, 0, none⟩), .pointer (some ⟨b1, 0, none⟩)] v fun e w' => e = .returned (.int .u64 (M i : Nat)) ∧ Below v.heap.size v w') := fun v hv => HC.out v hv i hin
      clear hcall
      have wa : Go.bits .andNot .u64 (E : Int) ((2 ^ i : Nat) : Int) = ((E - (E &&& 2 ^ i) : Nat) : Int) := andNot_u _ (by omega)
      have wb : Go.bits .andNot .u64 ((M i : Nat) : Int) (D : Int) = ((M i - (M i &&& D) : Nat) : Int) := andNot_u _ (by omega)
      have hm1 : M i - (M i &&& D) ≤ M i := Nat.sub_le _ _
      have he1 : E - (E &&& 2 ^ i) ≤ E := Nat.sub_le _ _
      have wc : Go.bits .or .u64 (D : Int) ((M i - (M i &&& D) : Nat) : Int) = ((D ||| (M i - (M i &&& D)) : Nat) : Int) := or_u (by omega) (by omega)
      have wd : Go.bits .or .u64 ((E - (E &&& 2 ^ i) : Nat) : Int) ((M i - (M i &&& D) : Nat) : Int) = (((E - (E &&& 2 ^ i)) ||| (M i - (M i &&& D)) : Nat) : Int) := or_u (by omega) (by omega)
      generalize hE2 : (E - (E &&& 2 ^ i)) ||| (M i - (M i &&& D)) = E2 at *
      generalize hD2 : D ||| (M i - (M i &&& D)) = D2 at *
      clear hE2 hD2
      generalize E - (E &&& 2 ^ i) = E1 at *
      generalize M i - (M i &&& D) = m1 at *
      generalize M i = m0 at *
      generalize 2 ^ i = p at *
      generalize i % c = ix at *
      generalize i / c = iy at *
      have S1 := Lib.hid S1
      have S2 := Lib.hid S2
      clear hbit hE hz h0
      go_wp2_with fail
      refine (HSP.out _).mono ?_
      rintro e2 w2 ⟨rfl, hb2⟩
      have A2 := A1.step hb2
      clear A1 hb2 c0 c1
      obtain ⟨c0, c1, -, -⟩ := id A2
      go_wp2_with fail
      refine (HC2.out _ A2.below).mono ?_
      rintro e3 w3 ⟨rfl, hb3⟩
      have A3 := A2.step hb3
      clear A2 hb3 c0 c1
      go_wp2_with fail
      go_roundw
      case rel => exact ⟨D2, E2, S1, rfl, rfl, A3⟩
      case measure =>
        have := S2.out
        have h3 : D2 - (D2 &&& E2) ≤ D2 := Nat.sub_le _ _
        simp [intOf]; omega

set_option maxHeartbeats 4000000 in
theorem leadsEdges_any (c r n F G : Nat) (M : Nat → Nat) (b0 b1 b2 : Nat) (u : World) (hL : LaidZ u) (hc : 1 ≤ c ∧ c ≤ 4) (hn : n ≤ 12) (hF : F < 2 ^ n) (hG : G < 2 ^ 16) (hM : ∀ i, i < n → M i < 2 ^ n)
    (HK : ∀ v, Below u.heap.size u v → ∀ i : Nat, i < n → Calls Tryd.prog 58 #[.agg #[.int .i64 (i % c : Nat), .int .i64 (i / c : Nat)], .pointer (some ⟨b0, 0, none⟩), .pointer (some ⟨b1, 0, none⟩), .pointer (some ⟨b2, 0, none⟩)] v fun e w' => e = .returned (.int .u64 (M i : Nat)) ∧ Below v.heap.size v w') :
    Calls Tryd.prog 57 #[.agg #[.int .i64 c, .int .i64 r], .int .u64 F, .int .u64 G, .func (.func 58) #[] #[.pointer (some ⟨b0, 0, none⟩), .pointer (some ⟨b1, 0, none⟩), .pointer (some ⟨b2, 0, none⟩)]] u fun e w' => ∃ D : Nat, Walk7 (fun a b => (M a).testBit b) n F D 0 ∧ e = .returned (.bool (!(D &&& G == 0))) ∧ Below u.heap.size u w' := by
  have h12 : 2 ^ n ≤ 2 ^ 12 := Nat.pow_le_pow_right (by omega) hn
  have W0 : Hid (Walk7 (fun a b => (M a).testBit b) n F F F) := Walk7.begin hF
  obtain ⟨P, hP⟩ : ∃ P, 2 ^ n = P := ⟨_, rfl⟩
  have HP := Lib.hid hP
  have HC := Lib.hid HK
  rw [hP] at h12 hF hM
  have hP4 : P ≤ 4096 := h12
  have HM := Lib.hid hM
  clear HK hP h12 hM
  have A0 := AreaAt.start u c r 42
  obtain ⟨c0, c1, -, -⟩ := id A0
  go_enter Tryd.func57, Tryd.ntmps57
  go_wp2_with fail
  go_loopw [9, 10] (fun d g wr => ∃ D E : Nat, Hid (Walk7 (fun a b => (M a).testBit b) n F D E) ∧ d = .int .u64 (D : Nat) ∧ g = .int .u64 (E : Nat) ∧ AreaAt u wr u.heap.size c r) (fun d g _ => P - ((intOf d).toNat - ((intOf d).toNat &&& (intOf g).toNat)))
  case atStart => exact ⟨F, F, W0, rfl, rfl, A0⟩
  case round =>
    clear A0 c0 c1 W0
    obtain ⟨D, E, W1, rfl, rfl, A1⟩ := hrel
    obtain ⟨c0, c1, -, -⟩ := id A1
    have hD : D < P := by have := W1.out.lt; rwa [HP.out] at this
    have hE : E ≤ D := by
      have h : E &&& D = E := by
        refine Nat.eq_of_testBit_eq fun i => ?_
        rw [Nat.testBit_and]
        cases he : E.testBit i with
        | false => rfl
        | true => rw [W1.out.sub i he]; rfl
      rw [← h]; exact Nat.and_le_right
    by_cases hlt : E < 1
    · obtain rfl : E = 0 := by omega
      have wa : Go.bits .and .u64 (D : Int) (G : Int) = ((D &&& G : Nat) : Int) := and_u (by omega) (by omega)
      have HR : Hid ((D &&& G == 0) = (((D &&& G : Nat) : Int) == 0)) := by
        rw [Hid, Bool.eq_iff_iff, beq_iff_eq, beq_iff_eq]; omega
      have BB := A1.below
      generalize hx : D &&& G = x at *
      have HX := Lib.hid hx
      clear hx
      go_wp2_with fail
      go_returns
      exact ⟨D, W1.out, retB (by rw [HX.out, HR.out]; first | rfl | simp), BB⟩
    · have h0 : 0 < E := by omega
      have hE4 : E < 4096 := by omega
      have hz : ((E : Int) == 0) = false := by rw [beq_eq_false_iff_ne]; omega
      have hLr : LaidZ wr := hL.on A1.below
      go_wp2_with fail
      refine (lowest_any E h0 hE4 _ hLr).mono ?_
      rintro e1 w1 ⟨i, rfl, hi, hbit, rfl⟩
      have hin : i < n := by
        refine Nat.lt_of_not_le fun hn => ?_
        have := W1.out.sub i hbit
        rw [Nat.testBit_lt_two_pow (Nat.lt_of_lt_of_le W1.out.lt (Nat.pow_le_pow_right (by omega) hn))] at this; cases this
      have hMi := HM.out i hin
      have S1 := W1.out.step hbit (M := M i) (by rw [HP.out]; exact hMi) (fun b _ => rfl)
      have S2 := walk_less (M := M i) W1.out.sub hbit
      have SL := S1.lt
      rw [HP.out] at SL
      have hcall := HC.out wr A1.below i hin
      have hs := shl_small i (by omega)
      have hp : 2 ^ i ≤ 2 ^ 12 := Nat.pow_le_pow_right (by omega) (by omega)
      have HSP : Hid (∀ v, Calls Tryd.prog 70 #[.agg #[.int .i64 c, .int .i64 r], .int .i64 i] v fun e w' => e = .returned (.agg #[.int .i64 (i % c : Nat), .int .i64 (i / c : Nat)]) ∧ Below v.heap.size v w') := fun v => spotOf_any c r i hc (by omega) v
      have HC2 : Hid (∀ v, Below u.heap.size u v → Calls Tryd.prog 58 #[.agg #[.int .i64 (i % c : Nat), .int .i64 (i / c : Nat)], .pointer (some ⟨b0, 0, none⟩), .pointer (some ⟨b1, 0, none⟩), .pointer (some ⟨b2, 0, none⟩)] v fun e w' => e = .returned (.int .u64 (M i : Nat)) ∧ Below v.heap.size v w') := fun v hv => HC.out v hv i hin
      clear hcall
      have wa : Go.bits .andNot .u64 (E : Int) ((2 ^ i : Nat) : Int) = ((E - (E &&& 2 ^ i) : Nat) : Int) := andNot_u _ (by omega)
      have wb : Go.bits .andNot .u64 ((M i : Nat) : Int) (D : Int) = ((M i - (M i &&& D) : Nat) : Int) := andNot_u _ (by omega)
      have hm1 : M i - (M i &&& D) ≤ M i := Nat.sub_le _ _
      have he1 : E - (E &&& 2 ^ i) ≤ E := Nat.sub_le _ _
      have wc : Go.bits .or .u64 (D : Int) ((M i - (M i &&& D) : Nat) : Int) = ((D ||| (M i - (M i &&& D)) : Nat) : Int) := or_u (by omega) (by omega)
      have wd : Go.bits .or .u64 ((E - (E &&& 2 ^ i) : Nat) : Int) ((M i - (M i &&& D) : Nat) : Int) = (((E - (E &&& 2 ^ i)) ||| (M i - (M i &&& D)) : Nat) : Int) := or_u (by omega) (by omega)
      generalize hE2 : (E - (E &&& 2 ^ i)) ||| (M i - (M i &&& D)) = E2 at *
      generalize hD2 : D ||| (M i - (M i &&& D)) = D2 at *
      clear hE2 hD2
      generalize E - (E &&& 2 ^ i) = E1 at *
      generalize M i - (M i &&& D) = m1 at *
      generalize M i = m0 at *
      generalize 2 ^ i = p at *
      generalize i % c = ix at *
      generalize i / c = iy at *
      have S1 := Lib.hid S1
      have S2 := Lib.hid S2
      clear hbit hE hz h0
      go_wp2_with fail
      refine (HSP.out _).mono ?_
      rintro e2 w2 ⟨rfl, hb2⟩
      have A2 := A1.step hb2
      clear A1 hb2 c0 c1
      obtain ⟨c0, c1, -, -⟩ := id A2
      go_wp2_with fail
      refine (HC2.out _ A2.below).mono ?_
      rintro e3 w3 ⟨rfl, hb3⟩
      have A3 := A2.step hb3
      clear A2 hb3 c0 c1
      go_wp2_with fail
      go_roundw
      case rel => exact ⟨D2, E2, S1, rfl, rfl, A3⟩
      case measure =>
        have := S2.out
        have h3 : D2 - (D2 &&& E2) ≤ D2 := Nat.sub_le _ _
        simp [intOf]; omega
end Go.Proofs.YtcmomghlepmogaaDoor
