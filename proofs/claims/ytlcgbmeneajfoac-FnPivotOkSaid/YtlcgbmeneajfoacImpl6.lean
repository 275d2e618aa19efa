/- A bit put in, and pivots of the program. -/
import Derived.Test.YtlcgbmeneajfoacPivV
import Derived.Test.YtlcgbmeneajfoacImpl4
import Derived.Test.YtlcgbmeneajfoacEdgesAt
import Derived.Test.YtlcgbmeneajfoacClass
import Derived.Test.YtlcgbmeneajfoacSpec6
import Derived.Test.YtlcgbmeneajfoacRows2
import Derived.Deep.QuietTactic
import Derived.BigQuiet
import Derived.BigRegion
import Derived.Deep.RegionHeld3
import Derived.Deep.AppendLies
namespace Go.Proofs.Ytlcgbmeneajfoac
open Go.RowKit
set_option maxRecDepth 100000

theorem low_and (k s : Nat) (hk : k < 9) (hs : s < 512) : Go.bits .and .i64 (s : Int) (((2 ^ k - 1 : Nat) : Nat) : Int) = ((s % 2 ^ k : Nat) : Int) := by
  revert s; revert k; decide +kernel
theorem gap_or (k s : Nat) (hk : k < 9) (hs : s < 512) : Go.bits .or .i64 (((s - s % 2 ^ k) * 2 : Nat) : Int) ((s % 2 ^ k : Nat) : Int) = ((putR k s : Nat) : Int) := by
  revert s; revert k; decide +kernel

theorem withGap_any (s k : Nat) (hs : s < 512) (hk : k < 9) (w : World) :
    Calls Try.prog 91 #[.int .i64 s, .int .i64 k] w fun e w' => e = .returned (.int .i64 (putR k s : Nat)) ∧ w = w' := by
  have ha := low_and k s hk hs
  have ho := gap_or k s hk hs
  obtain ⟨P, hP, p1, p2, hp3, hp4⟩ := pow_named (show k ≤ 9 by omega)
  rw [hP] at ha ho
  have hle : s % P ≤ s := Nat.mod_le s P
  have wp : IntKind.i64.wrap ((P : Int) - 1) = ((P - 1 : Nat) : Int) := by rw [IntWalk.i64_in _ (by omega)]; omega
  generalize s % P = low at *
  have ws : IntKind.i64.wrap ((s : Int) - (low : Int)) = ((s - low : Nat) : Int) := by rw [IntWalk.i64_in _ (by omega)]; omega
  have wt : IntKind.i64.wrap (((s - low : Nat) : Int) * 2) = (((s - low) * 2 : Nat) : Int) := by rw [IntWalk.i64_in _ (by omega)]; omega
  generalize putR k s = r at *
  generalize (s - low) * 2 = u at *
  generalize s - low = v at *
  generalize P - 1 = m at *
  clear hP p1 p2 hle
  go_enter Try.func91, Try.ntmps91
  go_wp2_with fail
  go_returns
  exact ⟨by first | rfl | simp [*], rfl⟩

theorem atOk_join {n : Int} {es : List (Int × Int)} {a b at_ : Int} : (joinOkB n es a b && atOkB n es at_) = pivOkB n es a b at_ := by
  rw [Bool.eq_iff_iff, Bool.and_eq_true, pivOkB_iff]
  unfold atOkB
  rw [Bool.and_eq_true, Bool.and_eq_true, decide_eq_true_eq, decide_eq_true_eq]
  constructor
  · rintro ⟨h1, h2, h3, h4⟩; exact ⟨h1, h3, h4⟩
  · rintro ⟨h1, h2, h3⟩; exact ⟨h1, (joinOkB_iff.1 h1).1, h2, h3⟩
theorem pivB_by (n a b s at_ : Int) (es : List (Int × Int)) : pivB n es a b s at_ = (atOkB n es at_ && (joinOkB n es a b && (stateOkB n es s && pivN es a.toNat b.toNat at_.toNat s.toNat))) := by
  unfold pivB
  rw [← atOk_join]
  cases stateOkB n es s <;> cases joinOkB n es a b <;> cases atOkB n es at_ <;> simp

set_option maxHeartbeats 4000000 in
theorem pivotOk_any (n a b s at_ : Int) (A : Option Addr) (cap : Nat) (es : List (Int × Int)) (w : World) (hes : EdgesIn w w.heap.size A es) (hl : es.length ≤ 1048576) :
    Calls Try.prog 35 #[.agg #[.int .i64 n, .slice A es.length cap], .int .i64 a, .int .i64 b, .int .i64 s, .int .i64 at_] w fun e w' => e = .returned (.bool (pivB n es a b s at_)) ∧ Below w.heap.size w w' := by
  have L0 := ArgNet.start (cap := cap) (n := n) 30 hes
  rw [pivB_by]
  cases hat : atOkB n es at_ with
  | false =>
    have HAT := Lib.hid hat
    clear hat
    obtain ⟨_, _, c0, c1, s0⟩ := id L0
    go_enter Try.func35, Try.ntmps35
    go_wp2_with fail
    refine (edgeAtOk_any _ _ _ _ _ _ L0.edges hl).mono ?_
    rintro e1 w1 ⟨rfl, hb1⟩
    rw [HAT.out]
    have L1 := L0.step hb1 L0.lt
    go_wp2_with fail
    go_returns
    exact ⟨rfl, L1.below⟩
  | true =>
    have HAT := Lib.hid hat
    cases hj : joinOkB n es a b with
    | false =>
      have HJ := Lib.hid hj
      clear hat hj
      obtain ⟨_, _, c0, c1, s0⟩ := id L0
      go_enter Try.func35, Try.ntmps35
      go_wp2_with fail
      refine (edgeAtOk_any _ _ _ _ _ _ L0.edges hl).mono ?_
      rintro e1 w1 ⟨rfl, hb1⟩
      rw [HAT.out]
      have L1 := L0.step hb1 L0.lt
      clear L0 hb1 c0 c1 s0
      obtain ⟨_, _, c0, c1, s0⟩ := id L1
      go_wp2_with fail
      refine (pairOk_any _ _ _ _ _ _ _ L1.edges hl).mono ?_
      rintro e2 w2 ⟨rfl, hb2⟩
      rw [HJ.out]
      have L2 := L1.step hb2 L1.lt
      go_wp2_with fail
      go_returns
      exact ⟨rfl, L2.below⟩
    | true =>
      have HJ := Lib.hid hj
      cases hst : stateOkB n es s with
      | false =>
        have HST := Lib.hid hst
        clear hat hj hst
        obtain ⟨_, _, c0, c1, s0⟩ := id L0
        go_enter Try.func35, Try.ntmps35
        go_wp2_with fail
        refine (edgeAtOk_any _ _ _ _ _ _ L0.edges hl).mono ?_
        rintro e1 w1 ⟨rfl, hb1⟩
        rw [HAT.out]
        have L1 := L0.step hb1 L0.lt
        clear L0 hb1 c0 c1 s0
        obtain ⟨_, _, c0, c1, s0⟩ := id L1
        go_wp2_with fail
        refine (pairOk_any _ _ _ _ _ _ _ L1.edges hl).mono ?_
        rintro e2 w2 ⟨rfl, hb2⟩
        rw [HJ.out]
        have L2 := L1.step hb2 L1.lt
        clear L1 hb2 c0 c1 s0
        obtain ⟨_, _, c0, c1, s0⟩ := id L2
        go_wp2_with fail
        refine (stateOk_any _ _ _ _ _ _ L2.edges hl).mono ?_
        rintro e3 w3 ⟨rfl, hb3⟩
        rw [HST.out]
        have L3 := L2.step hb3 L2.lt
        go_wp2_with fail
        go_returns
        exact ⟨rfl, L3.below⟩
      | true =>
        have HST := Lib.hid hst
        have h9 := joinOk_nine hj
        have hat' : pivOkB n es a b at_ = true := by rw [← atOk_join, hj, hat]; rfl
        obtain ⟨-, a0, a1⟩ := pivOkB_iff.1 hat'
        obtain ⟨-, s0, s1⟩ := stateOkB_iff.1 hst
        obtain ⟨k, rfl⟩ : ∃ k : Nat, at_ = k := ⟨at_.toNat, by omega⟩
        obtain ⟨S, rfl⟩ : ∃ S : Nat, s = S := ⟨s.toNat, by omega⟩
        have hk9 : k < 9 := by omega
        obtain ⟨l, hl1⟩ : ∃ l, es.length = l + 1 := ⟨es.length - 1, by omega⟩
        have hS : S < 2 ^ es.length := by
          have h2 : ((2 : Nat) : Int) = 2 := rfl
          have : ((S : Nat) : Int) < ((2 ^ es.length : Nat) : Int) := by rw [Int.natCast_pow, h2]; exact s1
          exact Int.ofNat_lt.1 this
        have hS9 : S < 512 := Nat.lt_of_lt_of_le hS (Nat.pow_le_pow_right (n := 2) (by omega) h9)
        obtain ⟨t, ht, he⟩ := clr_put (k := k) (l := l) (by omega) (by omega) (by rw [← hl1]; exact hS)
        have hC : clrN k S < 2 ^ es.length := Nat.lt_of_le_of_lt (clr_le k S) hS
        have hC2 : clrN k S + 2 ^ k < 2 ^ es.length := by rw [← he, hl1]; exact putR_more_lt (by omega) ht
        have hN := andNot_clr k S hk9 hS9
        have hO := or_set k S hk9 hS9
        have J1 : ∀ u, ArgNet w u n A cap es → Calls Try.prog 33 #[.agg #[.int .i64 n, .slice A es.length cap], .int .i64 (clrN k S + 2 ^ k : Nat), .int .i64 a, .int .i64 b] u fun e w' => e = .returned (.bool (joinS es a.toNat b.toNat (clrN k S + 2 ^ k))) ∧ Below u.heap.size u w' :=
          fun u hu => by rw [← joined_state hj hC2]; exact joinedOk_any _ _ _ _ _ _ _ _ hu.edges hl
        have J0 : ∀ u, ArgNet w u n A cap es → Calls Try.prog 33 #[.agg #[.int .i64 n, .slice A es.length cap], .int .i64 (clrN k S : Nat), .int .i64 a, .int .i64 b] u fun e w' => e = .returned (.bool (joinS es a.toNat b.toNat (clrN k S))) ∧ Below u.heap.size u w' :=
          fun u hu => by rw [← joined_state hj hC]; exact joinedOk_any _ _ _ _ _ _ _ _ hu.edges hl
        have HV : Hid (pivN es a.toNat b.toNat k S = (joinS es a.toNat b.toNat (clrN k S + 2 ^ k) && !joinS es a.toNat b.toNat (clrN k S))) := rfl
        rw [show ((k : Nat) : Int).toNat = k from rfl, show ((S : Nat) : Int).toNat = S from rfl]
        generalize joinS es a.toNat b.toNat (clrN k S + 2 ^ k) = v1 at *
        generalize joinS es a.toNat b.toNat (clrN k S) = v0 at *
        generalize pivN es a.toNat b.toNat k S = v at *
        obtain ⟨P, hP, p1, p2, hp3, hp4⟩ := pow_named (show k ≤ 9 by omega)
        rw [hP] at J1
        rw [hp3] at hN hO
        rw [hP] at hO
        generalize clrN k S + P = C1 at *
        generalize clrN k S = C at *
        have HJ1 := Lib.hid J1
        have HJ0 := Lib.hid J0
        clear hst hj hat hat' J1 J0 hS hC hC2 he ht hP s1 hl1
        obtain ⟨_, _, c0, c1, s0'⟩ := id L0
        go_enter Try.func35, Try.ntmps35
        go_wp2_with fail
        refine (edgeAtOk_any _ _ _ _ _ _ L0.edges hl).mono ?_
        rintro e1 w1 ⟨rfl, hb1⟩
        rw [HAT.out]
        have L1 := L0.step hb1 L0.lt
        clear L0 hb1 c0 c1 s0'
        obtain ⟨_, _, c0, c1, s0'⟩ := id L1
        go_wp2_with fail
        refine (pairOk_any _ _ _ _ _ _ _ L1.edges hl).mono ?_
        rintro e2 w2 ⟨rfl, hb2⟩
        rw [HJ.out]
        have L2 := L1.step hb2 L1.lt
        clear L1 hb2 c0 c1 s0'
        obtain ⟨_, _, c0, c1, s0'⟩ := id L2
        go_wp2_with fail
        refine (stateOk_any _ _ _ _ _ _ L2.edges hl).mono ?_
        rintro e3 w3 ⟨rfl, hb3⟩
        rw [HST.out]
        have L3 := L2.step hb3 L2.lt
        clear L2 hb3 c0 c1 s0'
        obtain ⟨_, _, c0, c1, s0'⟩ := id L3
        go_wp2_with fail
        refine (HJ1.out _ L3).mono ?_
        rintro e4 w4 ⟨rfl, hb4⟩
        have L4 := L3.step hb4 L3.lt
        clear L3 hb4 c0 c1 s0'
        obtain ⟨_, _, c0, c1, s0'⟩ := id L4
        cases v1
        · go_wp2_with fail
          go_returns
          exact ⟨retB (by rw [HV.out]; rfl), L4.below⟩
        · go_wp2_with fail
          refine (HJ0.out _ L4).mono ?_
          rintro e5 w5 ⟨rfl, hb5⟩
          have L5 := L4.step hb5 L4.lt
          go_wp2_with fail
          go_returns
          exact ⟨retB (by rw [HV.out]; cases v0 <;> rfl), L5.below⟩
end Go.Proofs.Ytlcgbmeneajfoac

/- PivotCounts, sums over places and WeightOf of the program. -/
namespace Go.Proofs.Ytlcgbmeneajfoac
open Go.RowKit
set_option maxRecDepth 100000

/-- What the loop over states lays hold of: the law's own net, and the row of counts. -/
def PcAt (w : World) (n : Int) (A : Option Addr) (cap : Nat) (es : List (Int × Int)) (g m : Nat) (xs : List Int) (u : World) : Prop :=
  ArgNet w u n A cap es ∧ OwnI u (w.heap.size + 1) (.slice (some ⟨g, 0, none⟩) m m) xs
theorem PcAt.on {w u : World} {n : Int} {A : Option Addr} {cap : Nat} {es : List (Int × Int)} {g m : Nat} {xs : List Int} (h : PcAt w n A cap es g m xs u) : ∀ w', Below u.heap.size u w' → PcAt w n A cap es g m xs w' :=
  fun _ hb => ⟨h.1.step hb h.1.lt, h.2.below hb h.2.lt⟩
theorem PcAt.drew {w u : World} {n : Int} {A : Option Addr} {cap : Nat} {es : List (Int × Int)} {g m : Nat} {xs : List Int} (h : PcAt w n A cap es g m xs u) : PcAt w n A cap es g m xs u.drew := ⟨h.1.drew, h.2.drew⟩

set_option maxHeartbeats 4000000 in
theorem pivotCounts_any (n a b at_ : Int) (A : Option Addr) (cap : Nat) (es : List (Int × Int)) (w : World) (hes : EdgesIn w w.heap.size A es) (hl : es.length ≤ 1048576) :
    Calls Try.prog 73 #[.agg #[.int .i64 n, .slice A es.length cap], .int .i64 a, .int .i64 b, .int .i64 at_] w (GotInts w (pivL n es a b at_)) := by
  have L0 := ArgNet.start (cap := cap) (n := n) 30 hes
  cases hj : joinOkB n es a b with
  | false =>
    have HL : Hid (pivL n es a b at_ = []) := pivL_not (by rw [pivOkB_iff, hj]; simp)
    have HJ := Lib.hid hj
    clear hj
    obtain ⟨_, _, c0, c1, s0⟩ := id L0
    go_enter Try.func73, Try.ntmps73
    go_wp2_with fail
    refine (pairOk_any _ _ _ _ _ _ _ L0.edges hl).mono ?_
    rintro e1 w1 ⟨rfl, hb1⟩
    rw [HJ.out]
    have L1 := L0.step hb1 L0.lt
    clear L0 hb1 c0 c1 s0
    obtain ⟨_, _, c0, c1, s0⟩ := id L1
    go_wp2_with fail
    go_returns
    exact ⟨none, 0, by rw [HL.out]; rfl, by rw [HL.out]; exact OwnI.nil _ _, L1.below⟩
  | true =>
    have HJ := Lib.hid hj
    cases hat : atOkB n es at_ with
    | false =>
      have HL : Hid (pivL n es a b at_ = []) := pivL_not (by rw [← atOk_join, hj, hat]; simp)
      have HAT := Lib.hid hat
      clear hj hat
      obtain ⟨_, _, c0, c1, s0⟩ := id L0
      go_enter Try.func73, Try.ntmps73
      go_wp2_with fail
      refine (pairOk_any _ _ _ _ _ _ _ L0.edges hl).mono ?_
      rintro e1 w1 ⟨rfl, hb1⟩
      rw [HJ.out]
      have L1 := L0.step hb1 L0.lt
      clear L0 hb1 c0 c1 s0
      obtain ⟨_, _, c0, c1, s0⟩ := id L1
      go_wp2_with fail
      refine (edgeAtOk_any _ _ _ _ _ _ L1.edges hl).mono ?_
      rintro e2 w2 ⟨rfl, hb2⟩
      rw [HAT.out]
      have L2 := L1.step hb2 L1.lt
      go_wp2_with fail
      go_returns
      exact ⟨none, 0, by rw [HL.out]; rfl, by rw [HL.out]; exact OwnI.nil _ _, L2.below⟩
    | true =>
      have hok : pivOkB n es a b at_ = true := by rw [← atOk_join, hj, hat]; rfl
      have h9 := joinOk_nine hj
      obtain ⟨-, a0, a1⟩ := pivOkB_iff.1 hok
      obtain ⟨k, rfl⟩ : ∃ k : Nat, at_ = k := ⟨at_.toNat, by omega⟩
      have hk9 : k < 9 := by omega
      obtain ⟨l, hl1⟩ : ∃ l, es.length - 1 = l := ⟨_, rfl⟩
      have hl8 : l ≤ 8 := by omega
      have hll : es.length = l + 1 := by omega
      have HAT := Lib.hid hat
      have HQ : Hid (∀ s : Nat, s < 2 ^ l → pivB n es a b (putR k s : Nat) (k : Nat) = pivS es a.toNat b.toNat k s) := fun s hs => pivB_put hok (by rw [hl1]; exact hs)
      have HC := Lib.hid (piv_cnt hok)
      have HLL := Lib.hid (pivL_length hok)
      have HG : Hid (l < es.length) := by rw [Hid]; omega
      rw [show ((k : Nat) : Int).toNat = k from rfl, hl1] at HC
      have hsc := stateCount_any n A cap es
      clear hj hat hok a0 a1 hl1
      obtain ⟨q, hq⟩ : ∃ q : Nat → Bool, pivS es a.toNat b.toNat k = q := ⟨_, rfl⟩
      rw [hq] at HC HQ
      clear hq
      obtain ⟨P, hP, p1, p2, hp3, hp4⟩ := pow_named (show l ≤ 9 by omega)
      have hPP : 2 ^ es.length = 2 * P := by rw [hll, Nat.pow_succ, hP, Nat.mul_comm]
      have HSC : Hid (∀ v : World, Calls Try.prog 47 #[.agg #[.int .i64 n, .slice A es.length cap]] v fun e w' => e = .returned (.int .i64 (2 * P : Nat)) ∧ Below v.heap.size v w') := fun v => by
        have := hsc v h9; rw [hPP] at this; exact this
      rw [hP] at HC HQ
      have HP := Lib.hid hP
      clear hP hsc hPP hp3 hp4 hll
      have hquo : ((2 * P : Nat) : Int).tdiv 2 = (P : Int) := by rw [Int.tdiv_eq_ediv_of_nonneg (by omega)]; omega
      have hquw : IntKind.i64.wrap (((2 * P : Nat) : Int).tdiv 2) = (P : Int) := by rw [hquo]; exact IntWalk.i64_in _ (by omega)
      generalize 2 * P = PP at *
      have hwp : IntKind.i64.wrap (P : Int) = (P : Int) := IntWalk.i64_in _ (by omega)
      obtain ⟨L, hL⟩ : ∃ L, pivL n es a b (k : Nat) = L := ⟨_, rfl⟩
      rw [hL] at HC HLL ⊢
      clear hL
      obtain ⟨i0, hi0, hz0, hz1, hz2⟩ := info_parts int_info
      obtain ⟨_, _, c0, c1, s0⟩ := id L0
      go_enter Try.func73, Try.ntmps73
      go_wp2_with fail
      refine (pairOk_any _ _ _ _ _ _ _ L0.edges hl).mono ?_
      rintro e1 w1 ⟨rfl, hb1⟩
      rw [HJ.out]
      have L1 := L0.step hb1 L0.lt
      clear L0 hb1 c0 c1 s0
      obtain ⟨_, _, c0, c1, s0⟩ := id L1
      go_wp2_with fail
      refine (edgeAtOk_any _ _ _ _ _ _ L1.edges hl).mono ?_
      rintro e2 w2 ⟨rfl, hb2⟩
      rw [HAT.out]
      have L2 := L1.step hb2 L1.lt
      clear L1 hb2 c0 c1 s0
      obtain ⟨_, _, c0, c1, s0⟩ := id L2
      go_wp2_with (at_make; refine wpList_make_full _ rfl _ _ 26 rfl (w.heap.size + 1) 3 i0 _ 1 Try.underlying26 hi0 hz0 hz1 .i64 .i64 es.length es.length es.length rfl rfl rfl rfl (by rw [hz2]; omega) (by simp [maxLen]; omega) (by omega) ?_; intro w3 hown3 hg3; have hb3 : Below (w.heap.size + 1) w2 w3 := (Below.refl _ _).grown hg3 (by omega) (by simp); have L3 := L2.step hb3 (by omega); obtain ⟨_, _, c0, c1, s3⟩ := id L3)
      have hst : OwnI w3 (w.heap.size + 1) (.slice (some ⟨w2.heap.size, 0, none⟩) es.length es.length) (cntR q 0 es.length) := by
        rw [cntR_zero]
        unfold OwnI; rw [List.length_replicate, ← madeCells_ints]; exact hown3
      clear hown3 hg3 hz1 hz2 hi0 hz0 hb3 L2 c0 c1
      generalize hg : w2.heap.size = g at *
      refine (HSC.out _).mono ?_
      rintro e4 w4 ⟨rfl, hb4⟩
      have L4 := L3.step hb4 L3.lt
      have hst4 := hst.below hb4 hst.lt
      clear L3 hb4 hst
      obtain ⟨_, _, c0, c1, s4⟩ := id L4
      go_wp2_with fail
      go_loopw [10, 29] (fun _ t wr => ∃ s : Nat, s ≤ P ∧ t = .int .i64 (s : Nat) ∧ OwnI wr (w.heap.size + 1) (.slice (some ⟨g, 0, none⟩) es.length es.length) (cntR q s es.length) ∧ ArgNet w wr n A cap es) (fun _ t _ => P - (intOf t).toNat)
      case atStart => exact ⟨0, by omega, rfl, hst4, L4⟩
      case round =>
        clear hst4 L4 c0 c1
        obtain ⟨s, hs, rfl, own, L5⟩ := hrel
        obtain ⟨_, _, c0, c1, s5⟩ := id L5
        by_cases hlt : s < P
        · have hs9 : s < 512 := by omega
          have hpl : Hid (pop s ≤ l) := pop_low (by rw [HP.out]; exact hlt) (by omega)
          have hPut : ∀ u, Calls Try.prog 91 #[.int .i64 (s : Nat), .int .i64 (k : Nat)] u fun e w' => e = .returned (.int .i64 (putR k s : Nat)) ∧ u = w' := fun u => withGap_any s k hs9 hk9 u
          have HPut := Lib.hid hPut
          have hV := HQ.out s hlt
          have hPV : ∀ u, EdgesIn u u.heap.size A es → Calls Try.prog 35 #[.agg #[.int .i64 n, .slice A es.length cap], .int .i64 a, .int .i64 b, .int .i64 (putR k s : Nat), .int .i64 (k : Nat)] u fun e w' => e = .returned (.bool (q s)) ∧ Below u.heap.size u w' := fun u hu => by
            rw [← hV]; exact pivotOk_any _ _ _ _ _ _ _ _ _ hu hl
          have HPV := Lib.hid hPV
          have hM : ∀ v, Calls Try.prog 85 #[.int .u64 s] v fun e w' => e = .returned (.int .i64 (pop s)) ∧ v = w' := fun v => size_any s v (by omega)
          have HM := Lib.hid hM
          clear hPut hV hPV hM
          generalize putR k s = z at *
          have D0 : PcAt w n A cap es g es.length (cntR q s es.length) wr := ⟨L5, own⟩
          have HHIT : Hid (q s = true → (cntR q s es.length).set (pop s) ((cntS q s (pop s) : Nat) + 1 : Int) = cntR q (s + 1) es.length) := fun hv => cntR_hit hv
          have HMISS : Hid (q s = false → cntR q (s + 1) es.length = cntR q s es.length) := fun hv => cntR_miss hv
          have HGET : Hid ((cntR q s es.length).getD (pop s) 0 = (cntS q s (pop s) : Nat)) := cntR_getD q s (show pop s < es.length by have := hpl.out; have := HG.out; omega)
          have hcz := cntS_le q s (pop s)
          generalize hR : cntR q s es.length = R at *
          generalize hR2 : cntR q (s + 1) es.length = R2 at *
          generalize cntS q s (pop s) = y at *
          have HR2 := Lib.hid hR2
          clear own L5 c0 c1 hR hR2
          generalize q s = v at *
          have HPV2 : Hid (∀ u, PcAt w n A cap es g es.length R u → Calls Try.prog 35 #[.agg #[.int .i64 n, .slice A es.length cap], .int .i64 a, .int .i64 b, .int .i64 (z : Nat), .int .i64 (k : Nat)] u fun e w' => e = .returned (.bool v) ∧ Below u.heap.size u w') := fun u hu => HPV.out u hu.1.edges
          clear HPV
          go_wp2_with fail
          refine wp_region_class (PcAt w n A cap es g es.length R) (by kernel_rfl) (by kernel_rfl) D0.drew ?_
          intro X hX f hf hex
          have k0 : ∀ x, (f x).cell? ⟨w.heap.size, 0, none⟩ = some (.int .i64 n) := fun x => (hf x).1.c0
          have k1 : ∀ x, (f x).cell? ⟨w.heap.size, 1, none⟩ = some (.slice A es.length cap) := fun x => (hf x).1.c1
          repeat (go_big_quiet_step (first
            | (go_at_call 91; with_reducible exact class_same (HPut.out _))
            | (go_at_call 35; with_reducible exact class_of hex (HPV2.out _ (hf _)) (hf _).on)))
          refine wpQuiet_nil ?_
          rintro _ ⟨x, rfl⟩
          have DX := hf x
          clear hex k0 k1
          generalize f x = u at *
          clear hf f D0
          obtain ⟨L6, own6⟩ := DX
          cases v with
          | true =>
            have hpl := hpl.out
            have hgl := HG.out
            obtain ⟨x1, f1⟩ := own6.slot (k := pop s) (by omega)
            rw [HGET.out] at x1
            have hst := own6.store (pop s) ((y : Nat) + 1)
            rw [HHIT.out rfl] at hst
            have HS := Lib.hid hst
            have hgg := own6.ge g rfl
            clear own6 hst
            have wz : IntKind.i64.wrap ((y : Int) + 1) = (y : Int) + 1 := IntWalk.i64_in _ (by omega)
            generalize pop s = x at *
            go_wp2_with fail
            refine (HM.out _).mono ?_
            rintro e8 w8 ⟨rfl, rfl⟩
            go_wp2_with fail
            go_roundw
            case rel => exact ⟨s + 1, by omega, by go_num, by rw [HR2.out]; exact HS.out, L6.step ((Below.refl (w.heap.size + 1) _).setCell (by simpa using hgg) _) (by omega)⟩
            case measure => simp [intOf]; omega
          | false =>
            have hm2 := HMISS.out rfl
            subst hm2
            go_wp2_with fail
            go_roundw
            case rel => exact ⟨s + 1, by omega, by go_num, by rw [HR2.out]; exact own6, L6⟩
            case measure => simp [intOf]; omega
        · obtain rfl : s = P := by omega
          rw [HC.out] at own
          go_wp2_with fail
          go_returns
          exact ⟨some ⟨g, 0, none⟩, es.length, by rw [HLL.out]; rfl, by rw [HLL.out]; exact own.more (by omega), L5.below⟩
end Go.Proofs.Ytlcgbmeneajfoac

/- Sums over places, and WeightOf of the program. -/
namespace Go.Proofs.Ytlcgbmeneajfoac
open Go.RowKit
set_option maxRecDepth 100000

theorem sum_small {x y z : Nat} (h1 : x = y + z) (h2 : y ≤ 2560) (h3 : z ≤ 256) : IntKind.i64.wrap ((y : Int) + (z : Int)) = (x : Int) := by rw [IntWalk.i64_in _ (by omega)]; omega

set_option maxHeartbeats 1000000 in
theorem sumWeight_any (g0 m : Nat) (f : Nat → Nat) (u : World) (hm : m ≤ 9) (hf : ∀ k, f k ≤ 256)
    (HK : ∀ v, Below u.heap.size u v → ∀ k : Nat, k < m → Calls Try.prog 75 #[.int .i64 k, .pointer (some ⟨g0, 0, none⟩)] v fun e w' => e = .returned (.int .i64 (f k : Nat)) ∧ Below v.heap.size v w') :
    Calls Try.prog 74 #[.int .i64 m, .func (.func 75) #[] #[.pointer (some ⟨g0, 0, none⟩)]] u fun e w' => e = .returned (.int .i64 (sumN f m : Nat)) ∧ Below u.heap.size u w' := by
  have HF := Lib.hid hf
  have HC := Lib.hid HK
  clear hf HK
  go_enter Try.func74, Try.ntmps74
  go_wp2_with fail
  go_loopw [5, 6, 8] (fun v _ t wr => ∃ k : Nat, k ≤ m ∧ t = .int .i64 (k : Nat) ∧ v = .int .i64 (sumN f k : Nat) ∧ Below u.heap.size u wr) (fun _ _ t _ => m - (intOf t).toNat)
  case atStart => exact ⟨0, by omega, rfl, rfl, Below.refl _ _⟩
  case round =>
    obtain ⟨k, hk, rfl, rfl, hb⟩ := hrel
    by_cases hlt : k < m
    · have z1 : sumN f k ≤ k * 256 := sumN_small HF.out k
      have z2 := HF.out k
      have HS : Hid (sumN f (k + 1) = sumN f k + f k) := rfl
      have z3 : sumN f k ≤ 2560 := by omega
      have hcall := HC.out _ hb k hlt
      clear z1
      have wz := sum_small HS.out z3 z2
      obtain ⟨x, hx⟩ : ∃ x, sumN f (k + 1) = x := ⟨_, rfl⟩
      rw [hx] at wz
      have HX := Lib.hid hx
      clear hx HS
      generalize sumN f k = y at *
      generalize f k = z at *
      go_wp2_with fail
      refine hcall.mono ?_
      clear hcall
      rintro e1 w1 ⟨rfl, hb1⟩
      have hb2 := hb.trans (hb1.mono hb.size)
      go_wp2_with fail
      go_roundw
      case rel => exact ⟨k + 1, by omega, by go_num, by rw [HX.out], hb2⟩
      case measure => simp [intOf]; omega
    · obtain rfl : k = m := by omega
      go_wp2_with fail
      go_returns
      exact ⟨rfl, hb⟩

/-- A row held in a cell of its own. -/
structure RowHeld (u : World) (g b l c : Nat) (xs : List Int) : Prop where
  k0 : u.cell? ⟨g, 0, none⟩ = some (.slice (some ⟨b, 0, none⟩) l c)
  i0 : IntsIn u u.heap.size (some ⟨b, 0, none⟩) xs
  lt : g < u.heap.size
theorem RowHeld.later {u u' : World} {g b l c : Nat} {xs : List Int} (h : RowHeld u g b l c xs) (hb : Below u.heap.size u u') : RowHeld u' g b l c xs :=
  ⟨(hb.cell h.lt).trans h.k0, (h.i0.below hb (Nat.le_refl _)).more hb.size, Nat.lt_of_lt_of_le h.lt hb.size⟩

theorem weightAt_any (u : World) (g b l c : Nat) (xs : List Int) (h : RowHeld u g b l c xs) (hx : xs.length = l) (k : Nat) (hk : k < l) (z : Nat) (hz : xs.getD k 0 = (z : Nat)) :
    Calls Try.prog 75 #[.int .i64 k, .pointer (some ⟨g, 0, none⟩)] u fun e w' => e = .returned (.int .i64 (z : Nat)) ∧ Below u.heap.size u w' := by
  obtain ⟨k0, i0, -⟩ := h
  obtain ⟨b', off, hbo, hb1, g1⟩ := i0 k _ (ints_at (show k < xs.length by omega))
  injection hbo with hbo; injection hbo with e1 e2; subst e1 e2
  rw [hz, Nat.zero_add] at g1
  clear i0 hx hz
  go_enter Try.func75, Try.ntmps75
  go_wp2_with fail
  go_returns
  exact ⟨by first | rfl | simp, Below.refl _ _⟩

set_option maxHeartbeats 4000000 in
theorem weightOf_any (n a b at_ : Int) (A : Option Addr) (cap : Nat) (es : List (Int × Int)) (w : World) (hes : EdgesIn w w.heap.size A es) (hl : es.length ≤ 1048576) :
    Calls Try.prog 40 #[.agg #[.int .i64 n, .slice A es.length cap], .int .i64 a, .int .i64 b, .int .i64 at_] w fun e w' => e = .returned (.int .i64 (wtI n es a b at_)) ∧ Below w.heap.size w w' := by
  have hmf : ∀ (fn : Fn) (first cap : Array Value) (w : World), (Instr.makeFunc fn first cap).run Try.prog w = .ok (.func fn first cap) w := fun _ _ _ _ => rfl
  have L0 := ArgNet.start (cap := cap) (n := n) 30 hes
  cases hok : pivOkB n es a b at_ with
  | false =>
    have hne : ¬ pivOkB n es a b at_ = true := by rw [hok]; simp
    have HL : Hid (wtI n es a b at_ = -1) := wt_not hne
    have HC : Hid (∀ u, EdgesIn u u.heap.size A es → Calls Try.prog 73 #[.agg #[.int .i64 n, .slice A es.length cap], .int .i64 a, .int .i64 b, .int .i64 at_] u (GotInts u [])) := fun u hu => by
      have := pivotCounts_any n a b at_ A cap es u hu hl
      rw [pivL_not hne] at this; exact this
    rw [HL.out]
    clear hok hne
    obtain ⟨_, _, c0, c1, s0⟩ := id L0
    go_enter Try.func40, Try.ntmps40
    go_wp2_with fail
    refine (HC.out _ L0.edges).mono ?_
    rintro e1 w1 ⟨A1, k1, rfl, own1, hb1⟩
    have L1 := L0.step hb1 L0.lt
    have B1 := L1.below
    clear L0 L1 hb1 c0 c1 s0
    have hz : (([] : List Int).length : Int) = 0 := rfl
    generalize hN : ([] : List Int).length = N at *
    have hN0 : N = 0 := hN.symm
    subst hN0
    go_wp2_with fail
    go_returns
    exact ⟨by first | rfl | simp, B1.alloc B1.size _⟩
  | true =>
    have h9 := joinOk_nine (pivOkB_iff.1 hok).1
    have hat2 := (pivOkB_iff.1 hok).2
    have hlen : 1 ≤ es.length := by omega
    have HW := Lib.hid (wt_is hok)
    have hF : ∀ k, pivC es a.toNat b.toNat at_.toNat k ≤ 256 := fun k => pivC_small (pivOkB_iff.1 hok).1 _ _ _ k
    have hG : ∀ k, k < es.length → (pivL n es a b at_).getD k 0 = (pivC es a.toNat b.toNat at_.toNat k : Nat) := fun k hk => pivL_get hok hk
    have hC : ∀ u : World, EdgesIn u u.heap.size A es → Calls Try.prog 73 #[.agg #[.int .i64 n, .slice A es.length cap], .int .i64 a, .int .i64 b, .int .i64 at_] u (GotAs u es.length (pivL n es a b at_)) := fun u hu =>
      (pivotCounts_any _ _ _ _ _ _ _ _ hu hl).mono fun e w' h => h.gotAs (pivL_length hok) hlen
    have HLL := Lib.hid (pivL_length hok)
    generalize pivL n es a b at_ = L at *
    have HCALL := Lib.hid hC
    clear hC hok hat2
    obtain ⟨f, hf⟩ : ∃ f : Nat → Nat, (fun k => pivC es a.toNat b.toNat at_.toNat k) = f := ⟨_, rfl⟩
    have HF' : Hid (∀ k, f k ≤ 256) := fun k => by rw [← hf]; exact hF k
    have HG' : Hid (∀ k, k < es.length → L.getD k 0 = (f k : Nat)) := fun k h1 => by rw [← hf]; exact hG k h1
    rw [hf] at HW
    clear hf hF hG
    generalize wtI n es a b at_ = R at *
    have hz : ((es.length : Int) == 0) = false := by rw [beq_eq_false_iff_ne]; omega
    obtain ⟨_, _, c0, c1, s0⟩ := id L0
    go_enter Try.func40, Try.ntmps40
    go_wp2_with fail
    refine (HCALL.out _ L0.edges).mono ?_
    rintro e1 w1 ⟨g1, k1, rfl, own1, hb1⟩
    have L1 := L0.step hb1 L0.lt
    have B1 := L1.below
    clear L0 L1 hb1 c0 c1 s0
    have RH : RowHeld (w1.alloc (.cells #[.slice (some ⟨g1, 0, none⟩) es.length k1] 26)) w1.heap.size g1 es.length k1 L :=
      ⟨by rw [World.cell?_alloc_at _ _ _ _ rfl]; rfl, (own1.ints.alloc (Nat.le_refl _) _).more (by simp), by simp⟩
    have B2 : Below w.heap.size w (w1.alloc (.cells #[.slice (some ⟨g1, 0, none⟩) es.length k1] 26)) := B1.alloc B1.size _
    have HSUM := sumWeight_any w1.heap.size es.length f (w1.alloc (.cells #[.slice (some ⟨g1, 0, none⟩) es.length k1] 26)) h9 HF'.out (fun v hv k hk => weightAt_any v _ _ _ _ _ (RH.later hv) HLL.out k hk _ (HG'.out k hk))
    have HSUM' := Lib.hid HSUM
    clear HSUM RH own1
    go_wp2_with fail
    refine HSUM'.out.mono ?_
    rintro e2 w2 ⟨rfl, hb2⟩
    go_wp2_with fail
    go_returns
    exact ⟨retI HW.out, B2.trans (hb2.mono B2.size)⟩
end Go.Proofs.Ytlcgbmeneajfoac

/- AllPivots of the program: rows of rows, and sums over them. -/
namespace Go.Proofs.Ytlcgbmeneajfoac
open Go.RowKit
set_option maxRecDepth 100000

theorem ArgNet.alloc {w u : World} {n : Int} {A : Option Addr} {cap : Nat} {es : List (Int × Int)} (h : ArgNet w u n A cap es) (o : Obj) : ArgNet w (u.alloc o) n A cap es := h.step ((Below.refl u.heap.size u).alloc (Nat.le_refl _) o) h.lt
/-- What the sum over a column lays hold of. -/
structure ColAt (u : World) (g7 g10 B : Nat) (OA : Option Addr) (k oc m i : Nat) (F : Nat → List Int) : Prop where
  k7 : u.cell? ⟨g7, 0, none⟩ = some (.slice OA k oc)
  k10 : u.cell? ⟨g10, 0, none⟩ = some (.int .i64 i)
  rd : RRowsRd u B OA k m F
  l7 : g7 < u.heap.size
  l10 : g10 < u.heap.size
  lB : B ≤ u.heap.size
theorem ColAt.later {u u' : World} {g7 g10 B : Nat} {OA : Option Addr} {k oc m i : Nat} {F : Nat → List Int} (h : ColAt u g7 g10 B OA k oc m i F) (hb : Below u.heap.size u u') : ColAt u' g7 g10 B OA k oc m i F :=
  ⟨(hb.cell h.l7).trans h.k7, (hb.cell h.l10).trans h.k10, h.rd.below hb h.lB, Nat.lt_of_lt_of_le h.l7 hb.size, Nat.lt_of_lt_of_le h.l10 hb.size, Nat.le_trans h.lB hb.size⟩

/-- Sums of columns, as far as they are made. -/
def colP6 (f : Nat → Nat) (i k : Nat) : Int := if k < i then ((f k : Nat) : Int) else 0
theorem colP6_start (f : Nat → Nat) (n : Nat) : rowL (colP6 f 0) n = List.replicate n 0 := by rw [rowL_zero]; exact rowL_congr fun k _ => by simp [colP6]
theorem colP6_step (f : Nat → Nat) (i n : Nat) : (rowL (colP6 f i) n).set i ((f i : Nat) : Int) = rowL (colP6 f (i + 1)) n := by
  rw [rowL_set]
  refine rowL_congr fun k _ => ?_
  unfold updI colP6
  by_cases h : k = i
  · subst h; simp
  · rw [if_neg h]
    by_cases h2 : k < i
    · rw [if_pos h2, if_pos (by omega)]
    · rw [if_neg h2, if_neg (by omega)]
theorem colP6_end (n : Int) (es : List (Int × Int)) (a b : Int) (h : joinOkB n es a b = true) : rowL (colP6 (fun k => sumN (fun t => pivC es a.toNat b.toNat t k) es.length) es.length) es.length = allPL n es a b := by
  unfold allPL; rw [if_pos h]
  exact rowL_congr fun k hk => by simp [colP6, hk]

end Go.Proofs.Ytlcgbmeneajfoac
