/- Pivots of the reference: l6Put, PivotOk, PivotCounts. -/
import Derived.Test.YtlcgbmeneajfoacPivV
import Derived.Test.YtlcgbmeneajfoacSpec4
import Derived.Test.YtlcgbmeneajfoacSpecCnt
import Derived.Test.YtlcgbmeneajfoacClass
namespace Go.Proofs.Ytlcgbmeneajfoac
open Go.RowKit
set_option maxRecDepth 100000

theorem specPut_any (s k : Nat) (hs : s < 512) (hk : k ≤ 9) (w : World) :
    Calls Try.prog 92 #[.int .i64 s, .int .i64 k] w fun e w' => e = .returned (.int .i64 (putR k s : Nat)) ∧ w = w' := by
  obtain ⟨P, hP, p1, p2, hp3, hp4⟩ := pow_named hk
  have hput := putR_is k s
  rw [hP] at hput
  have hle : s % P ≤ s := Nat.mod_le s P
  have hm : (s : Int).tmod (P : Int) = ((s % P : Nat) : Int) := by rw [Int.natCast_emod, Int.tmod_eq_emod_of_nonneg (by omega)]
  generalize s % P = low at *
  have wl : IntKind.i64.wrap (low : Int) = (low : Int) := IntWalk.i64_in _ (by omega)
  have ws : IntKind.i64.wrap ((s : Int) - (low : Int)) = ((s - low : Nat) : Int) := by rw [IntWalk.i64_in _ (by omega)]; omega
  have wt : IntKind.i64.wrap (((s - low : Nat) : Int) * 2) = (((s - low) * 2 : Nat) : Int) := by rw [IntWalk.i64_in _ (by omega)]; omega
  have wu : IntKind.i64.wrap ((((s - low) * 2 : Nat) : Int) + (low : Int)) = ((putR k s : Nat) : Int) := by rw [IntWalk.i64_in _ (by omega)]; omega
  have z0 : ((P : Int) == 0) = false := by simp; omega
  have zm : ((P : Int) == -1) = false := by simp
  have z1 : ¬ (P : Int) = 0 := by omega
  generalize putR k s = r at *
  generalize (s - low) * 2 = u at *
  generalize s - low = v at *
  clear hput hle hP
  go_enter Try.func92, Try.ntmps92
  go_wp2_with fail
  go_returns
  exact ⟨by first | rfl | simp [*], rfl⟩

theorem add_small {x y : Nat} (h : x + y < 512) : IntKind.i64.wrap ((x : Int) + (y : Int)) = ((x + y : Nat) : Int) := by rw [IntWalk.i64_in _ (by omega)]; omega

/-- Whether an edge is a pivot, of states that are ones. -/
theorem pivB_eq (n a b s at_ : Int) (es : List (Int × Int)) : pivB n es a b s at_ = (stateOkB n es s && (joinOkB n es a b && (atIn es at_ && pivN es a.toNat b.toNat at_.toNat s.toNat))) := by
  unfold pivB pivOkB; rw [Bool.and_assoc]
theorem at_dec (es : List (Int × Int)) (at_ : Int) : (decide ((0 : Int) ≤ at_) && decide (at_ ≤ (es.length : Int) - 1)) = atIn es at_ := by
  rw [Bool.eq_iff_iff, atIn_iff]; simp; omega

set_option maxHeartbeats 4000000 in
theorem specPivotOk_any (n a b s at_ : Int) (A : Option Addr) (cap : Nat) (es : List (Int × Int)) (w : World) (hes : EdgesIn w w.heap.size A es) (hl : es.length ≤ 1048576) :
    Calls Try.prog 36 #[.agg #[.int .i64 n, .slice A es.length cap], .int .i64 a, .int .i64 b, .int .i64 s, .int .i64 at_] w fun e w' => e = .returned (.bool (pivB n es a b s at_)) ∧ Below w.heap.size w w' := by
  have L0 := ArgNet.start (cap := cap) (n := n) 30 hes
  have wl : IntKind.i64.wrap ((es.length : Int) - 1) = (es.length : Int) - 1 := IntWalk.i64_in _ (by omega)
  rw [pivB_eq]
  cases hst : stateOkB n es s with
  | false =>
    have HST := Lib.hid hst
    clear hst
    obtain ⟨_, _, c0, c1, s0⟩ := id L0
    go_enter Try.func36, Try.ntmps36
    go_wp2_with fail
    refine (specStateOk_any _ _ _ _ _ _ L0.edges hl).mono ?_
    rintro e1 w1 ⟨rfl, hb1⟩
    rw [HST.out]
    have L1 := L0.step hb1 L0.lt
    go_wp2_with fail
    go_returns
    exact ⟨rfl, L1.below⟩
  | true =>
    have HST := Lib.hid hst
    cases hj : joinOkB n es a b with
    | false =>
      have HJ := Lib.hid hj
      clear hst hj
      obtain ⟨_, _, c0, c1, s0⟩ := id L0
      go_enter Try.func36, Try.ntmps36
      go_wp2_with fail
      refine (specStateOk_any _ _ _ _ _ _ L0.edges hl).mono ?_
      rintro e1 w1 ⟨rfl, hb1⟩
      rw [HST.out]
      have L1 := L0.step hb1 L0.lt
      clear L0 hb1 c0 c1 s0
      obtain ⟨_, _, c0, c1, s0⟩ := id L1
      go_wp2_with fail
      refine (l4Ends_any _ _ _ _ _ _ _ L1.edges hl).mono ?_
      rintro e2 w2 ⟨rfl, hb2⟩
      rw [HJ.out]
      have L2 := L1.step hb2 L1.lt
      go_wp2_with fail
      go_returns
      exact ⟨rfl, L2.below⟩
    | true =>
      have HJ := Lib.hid hj
      have HD := Lib.hid (at_dec es at_)
      cases hat : atIn es at_ with
      | false =>
        have HAT := Lib.hid hat
        clear hst hj hat
        obtain ⟨_, _, c0, c1, s0⟩ := id L0
        go_enter Try.func36, Try.ntmps36
        go_wp2_with fail
        refine (specStateOk_any _ _ _ _ _ _ L0.edges hl).mono ?_
        rintro e1 w1 ⟨rfl, hb1⟩
        rw [HST.out]
        have L1 := L0.step hb1 L0.lt
        clear L0 hb1 c0 c1 s0
        obtain ⟨_, _, c0, c1, s0⟩ := id L1
        go_wp2_with fail
        refine (l4Ends_any _ _ _ _ _ _ _ L1.edges hl).mono ?_
        rintro e2 w2 ⟨rfl, hb2⟩
        rw [HJ.out]
        have L2 := L1.step hb2 L1.lt
        clear L1 hb2 c0 c1 s0
        obtain ⟨_, _, c0, c1, s0⟩ := id L2
        go_wp2_with fail
        refine (l1In_any _ _ _ _).mono ?_
        rintro e3 w3 ⟨rfl, rfl⟩
        rw [HD.out, HAT.out]
        go_wp2_with fail
        go_returns
        exact ⟨rfl, L2.below⟩
      | true =>
        have HAT := Lib.hid hat
        have h9 := joinOk_nine hj
        obtain ⟨a0, a1⟩ := atIn_iff.1 hat
        obtain ⟨-, s0, s1⟩ := stateOkB_iff.1 hst
        obtain ⟨k, rfl⟩ : ∃ k : Nat, at_ = k := ⟨at_.toNat, by omega⟩
        obtain ⟨S, rfl⟩ : ∃ S : Nat, s = S := ⟨s.toNat, by omega⟩
        have hk9 : k < 9 := by omega
        obtain ⟨l, hl1⟩ : ∃ l, es.length = l + 1 := ⟨es.length - 1, by omega⟩
        have hS : S < 2 ^ es.length := by
          have h2 : ((2 : Nat) : Int) = 2 := rfl
          have : ((S : Nat) : Int) < ((2 ^ es.length : Nat) : Int) := by rw [Int.natCast_pow, h2]; exact s1
          exact Int.ofNat_lt.1 this
        have hS9 : S < 512 := Nat.lt_of_lt_of_le hS (Nat.pow_le_pow_right (n := 2) (by omega) h9)
        obtain ⟨t, ht, he⟩ := clr_put (k := k) (l := l) (by omega) (by omega) (by rw [← hl1]; exact hS)
        have hC : clrN k S < 2 ^ es.length := Nat.lt_of_le_of_lt (clr_le k S) hS
        have hC2 : clrN k S + 2 ^ k < 2 ^ es.length := by rw [← he, hl1]; exact putR_more_lt (by omega) ht
        have hCP : clrN k S + 2 ^ k < 512 := Nat.lt_of_lt_of_le hC2 (Nat.pow_le_pow_right (n := 2) (by omega) h9)
        have hN := andNot_clr k S hk9 hS9
        have J1 : ∀ u, ArgNet w u n A cap es → Calls Try.prog 44 #[.agg #[.int .i64 n, .slice A es.length cap], .int .i64 (clrN k S + 2 ^ k : Nat), .int .i64 a, .int .i64 b] u fun e w' => e = .returned (.bool (joinS es a.toNat b.toNat (clrN k S + 2 ^ k))) ∧ Below u.heap.size u w' :=
          fun u hu => by rw [← joined_state hj hC2]; exact specJoinedOk_any _ _ _ _ _ _ _ _ hu.edges hl
        have J0 : ∀ u, ArgNet w u n A cap es → Calls Try.prog 44 #[.agg #[.int .i64 n, .slice A es.length cap], .int .i64 (clrN k S : Nat), .int .i64 a, .int .i64 b] u fun e w' => e = .returned (.bool (joinS es a.toNat b.toNat (clrN k S))) ∧ Below u.heap.size u w' :=
          fun u hu => by rw [← joined_state hj hC]; exact specJoinedOk_any _ _ _ _ _ _ _ _ hu.edges hl
        have HV : Hid (pivN es a.toNat b.toNat k S = (joinS es a.toNat b.toNat (clrN k S + 2 ^ k) && !joinS es a.toNat b.toNat (clrN k S))) := rfl
        rw [show ((k : Nat) : Int).toNat = k from rfl, show ((S : Nat) : Int).toNat = S from rfl]
        generalize joinS es a.toNat b.toNat (clrN k S + 2 ^ k) = v1 at *
        generalize joinS es a.toNat b.toNat (clrN k S) = v0 at *
        generalize pivN es a.toNat b.toNat k S = v at *
        obtain ⟨P, hP, p1, p2, hp3, hp4⟩ := pow_named (show k ≤ 9 by omega)
        rw [hP] at J1 hCP
        rw [hp3] at hN
        have hw := add_small hCP
        generalize clrN k S + P = C1 at *
        generalize clrN k S = C at *
        have HJ1 := Lib.hid J1
        have HJ0 := Lib.hid J0
        clear hst hj hat J1 J0 hS hC hC2 he ht hP s1 hl1 hCP
        obtain ⟨_, _, c0, c1, s0'⟩ := id L0
        go_enter Try.func36, Try.ntmps36
        go_wp2_with fail
        refine (specStateOk_any _ _ _ _ _ _ L0.edges hl).mono ?_
        rintro e1 w1 ⟨rfl, hb1⟩
        rw [HST.out]
        have L1 := L0.step hb1 L0.lt
        clear L0 hb1 c0 c1 s0'
        obtain ⟨_, _, c0, c1, s0'⟩ := id L1
        go_wp2_with fail
        refine (l4Ends_any _ _ _ _ _ _ _ L1.edges hl).mono ?_
        rintro e2 w2 ⟨rfl, hb2⟩
        rw [HJ.out]
        have L2 := L1.step hb2 L1.lt
        clear L1 hb2 c0 c1 s0'
        obtain ⟨_, _, c0, c1, s0'⟩ := id L2
        go_wp2_with fail
        refine (l1In_any _ _ _ _).mono ?_
        rintro e3 w3 ⟨rfl, rfl⟩
        rw [HD.out, HAT.out]
        cases v1 <;> cases v0
        all_goals
          go_wp2_with fail
          refine wp_region_class (fun u => ArgNet w u n A cap es) (by kernel_rfl) (by kernel_rfl) L2.drew ?_
          intro X hX f hf hex
          have k0 : ∀ x, (f x).cell? ⟨w.heap.size, 0, none⟩ = some (.int .i64 n) := fun x => (hf x).c0
          have k1 : ∀ x, (f x).cell? ⟨w.heap.size, 1, none⟩ = some (.slice A es.length cap) := fun x => (hf x).c1
          repeat (go_big_quiet_step (first
            | (go_at_call 44; with_reducible exact class_of hex (HJ1.out _ (hf _)) (hf _).on)
            | (go_at_call 44; with_reducible exact class_of hex (HJ0.out _ (hf _)) (hf _).on)))
          refine wpQuiet_nil ?_
          rintro _ ⟨x, rfl⟩
          have L4 := hf x
          go_wp2_with fail
          go_returns
          exact ⟨retB (by rw [HV.out]; rfl), L4.below⟩

theorem pivB_put {n : Int} {es : List (Int × Int)} {a b : Int} {k s : Nat} (h : pivOkB n es a b (k : Nat) = true) (hs : s < 2 ^ (es.length - 1)) : pivB n es a b (putR k s : Nat) (k : Nat) = pivS es a.toNat b.toNat k s := by
  obtain ⟨p1, p2, -, -, -, p6, -⟩ := piv_parts h
  have hk : k < es.length := by simpa using p6
  obtain ⟨l, hl⟩ : ∃ l, es.length = l + 1 := ⟨es.length - 1, by omega⟩
  have hx : putR k s < 2 ^ es.length := by rw [hl] at hs ⊢; exact putR_lt k l s (by omega) hs
  unfold pivB
  rw [state_of p1 hx, h, show ((k : Nat) : Int).toNat = k from rfl, show ((putR k s : Nat) : Int).toNat = putR k s from rfl, pivN_put]
  rfl

set_option maxHeartbeats 4000000 in
theorem specPivotCounts_any (n a b at_ : Int) (A : Option Addr) (cap : Nat) (es : List (Int × Int)) (w : World) (hes : EdgesIn w w.heap.size A es) (hl : es.length ≤ 1048576) :
    Calls Try.prog 76 #[.agg #[.int .i64 n, .slice A es.length cap], .int .i64 a, .int .i64 b, .int .i64 at_] w (GotInts w (pivL n es a b at_)) := by
  have L0 := ArgNet.start (cap := cap) (n := n) 30 hes
  cases hj : joinOkB n es a b with
  | false =>
    have HL : Hid (pivL n es a b at_ = []) := pivL_not (by rw [pivOkB_iff, hj]; simp)
    have HJ := Lib.hid hj
    clear hj
    obtain ⟨_, _, c0, c1, s0⟩ := id L0
    go_enter Try.func76, Try.ntmps76
    go_wp2_with fail
    refine (l4Ends_any _ _ _ _ _ _ _ L0.edges hl).mono ?_
    rintro e1 w1 ⟨rfl, hb1⟩
    rw [HJ.out]
    have L1 := L0.step hb1 L0.lt
    clear L0 hb1 c0 c1 s0
    obtain ⟨_, _, c0, c1, s0⟩ := id L1
    go_wp2_with fail
    go_returns
    exact ⟨some ⟨w1.heap.size, 0, none⟩, 0, by rw [HL.out]; rfl, by rw [HL.out]; exact OwnI.empty w1 (by omega), L1.below.alloc (by omega) _⟩
  | true =>
    have HJ := Lib.hid hj
    cases hat : atIn es at_ with
    | false =>
      have HL : Hid (pivL n es a b at_ = []) := pivL_not (by rw [pivOkB, hj, hat]; simp)
      have HD := Lib.hid (at_dec es at_)
      have HAT := Lib.hid hat
      have wl : IntKind.i64.wrap ((es.length : Int) - 1) = (es.length : Int) - 1 := IntWalk.i64_in _ (by omega)
      clear hj hat
      obtain ⟨_, _, c0, c1, s0⟩ := id L0
      go_enter Try.func76, Try.ntmps76
      go_wp2_with fail
      refine (l4Ends_any _ _ _ _ _ _ _ L0.edges hl).mono ?_
      rintro e1 w1 ⟨rfl, hb1⟩
      rw [HJ.out]
      have L1 := L0.step hb1 L0.lt
      clear L0 hb1 c0 c1 s0
      obtain ⟨_, _, c0, c1, s0⟩ := id L1
      go_wp2_with fail
      refine (l1In_any _ _ _ _).mono ?_
      rintro e2 w2 ⟨rfl, rfl⟩
      rw [HD.out, HAT.out]
      go_wp2_with fail
      go_returns
      exact ⟨some ⟨w1.heap.size, 0, none⟩, 0, by rw [HL.out]; rfl, by rw [HL.out]; exact OwnI.empty w1 (by omega), L1.below.alloc (by omega) _⟩
    | true =>
      have hok : pivOkB n es a b at_ = true := by rw [pivOkB, hj, hat]; rfl
      have h9 := joinOk_nine hj
      obtain ⟨a0, a1⟩ := atIn_iff.1 hat
      obtain ⟨k, rfl⟩ : ∃ k : Nat, at_ = k := ⟨at_.toNat, by omega⟩
      have hk9 : k < 9 := by omega
      obtain ⟨l, hl1⟩ : ∃ l, es.length - 1 = l := ⟨_, rfl⟩
      have hl8 : l ≤ 8 := by omega
      have wl : IntKind.i64.wrap ((es.length : Int) - 1) = ((l : Nat) : Int) := by rw [IntWalk.i64_in _ (by omega)]; omega
      have HD : Hid ((decide ((0 : Int) ≤ (k : Nat)) && decide (((k : Nat) : Int) ≤ ((l : Nat) : Int))) = true) := by rw [Hid, Bool.and_eq_true, decide_eq_true_eq, decide_eq_true_eq]; omega
      have HQ : Hid (∀ s : Nat, s < 2 ^ l → pivB n es a b (putR k s : Nat) (k : Nat) = pivS es a.toNat b.toNat k s) := fun s hs => pivB_put hok (by rw [hl1]; exact hs)
      have HC := Lib.hid (piv_cnt hok)
      have HLL := Lib.hid (pivL_length hok)
      have HG : Hid (l < es.length) := by rw [Hid]; omega
      rw [show ((k : Nat) : Int).toNat = k from rfl, hl1] at HC
      clear hj hat hok a0 a1 hl1
      obtain ⟨q, hq⟩ : ∃ q : Nat → Bool, pivS es a.toNat b.toNat k = q := ⟨_, rfl⟩
      rw [hq] at HC HQ
      clear hq
      obtain ⟨P, hP, p1, p2, hp3, hp4⟩ := pow_named (show l ≤ 9 by omega)
      rw [hP] at HC HQ
      have HP := Lib.hid hP
      clear hP
      obtain ⟨L, hL⟩ : ∃ L, pivL n es a b (k : Nat) = L := ⟨_, rfl⟩
      rw [hL] at HC HLL ⊢
      clear hL
      obtain ⟨i0, hi0, hz0, hz1, hz2⟩ := info_parts int_info
      obtain ⟨_, _, c0, c1, s0⟩ := id L0
      go_enter Try.func76, Try.ntmps76
      go_wp2_with fail
      refine (l4Ends_any _ _ _ _ _ _ _ L0.edges hl).mono ?_
      rintro e1 w1 ⟨rfl, hb1⟩
      rw [HJ.out]
      have L1 := L0.step hb1 L0.lt
      clear L0 hb1 c0 c1 s0
      obtain ⟨_, _, c0, c1, s0⟩ := id L1
      go_wp2_with fail
      refine (l1In_any _ _ _ _).mono ?_
      rintro e2 w2 ⟨rfl, rfl⟩
      rw [HD.out]
      go_wp2_with (at_make; refine wpList_make_full _ rfl _ _ 26 rfl (w.heap.size + 1) 3 i0 _ 1 Try.underlying26 hi0 hz0 hz1 .i64 .i64 es.length es.length es.length rfl rfl rfl rfl (by rw [hz2]; omega) (by simp [maxLen]; omega) (by omega) ?_; intro w2 hown2 hg2)
      have hst : OwnI w2 (w.heap.size + 1) (.slice (some ⟨w1.heap.size, 0, none⟩) es.length es.length) (cntR q 0 es.length) := by
        rw [cntR_zero]
        unfold OwnI; rw [List.length_replicate, ← madeCells_ints]; exact hown2
      have hb2 : Below (w.heap.size + 1) w1 w2 := (Below.refl _ _).grown hg2 (by omega) (by simp)
      have L2 := L1.step hb2 (by omega)
      clear hown2 hg2 hz1 hz2 hi0 hz0 hb2 L1 c0 c1
      generalize hg : w1.heap.size = g at *
      obtain ⟨_, _, c0, c1, s2⟩ := id L2
      go_wp2_with fail
      go_loopw [10, 11] (fun t _ wr => ∃ s : Nat, s ≤ P ∧ t = .int .i64 (s : Nat) ∧ OwnI wr (w.heap.size + 1) (.slice (some ⟨g, 0, none⟩) es.length es.length) (cntR q s es.length) ∧ ArgNet w wr n A cap es) (fun t _ _ => P - (intOf t).toNat)
      case atStart => exact ⟨0, by omega, rfl, hst, L2⟩
      case round =>
        clear hst L2
        obtain ⟨s, hs, rfl, own, L3⟩ := hrel
        obtain ⟨_, _, c0, c1, s3⟩ := id L3
        by_cases hlt : s < P
        · have hs9 : s < 512 := by omega
          have hpp : pop (putR k s) = pop s := (pop_put k s (by omega) hs9).1
          have hpl : Hid (pop s ≤ l) := pop_low (by rw [HP.out]; exact hlt) (by omega)
          have hxl : putR k s < 9223372036854775808 := Nat.lt_trans (putR_lt k 9 s (by omega) hs9) (by omega)
          have hM : ∀ u, Calls Try.prog 56 #[.int .i64 (putR k s : Nat)] u fun e w' => e = .returned (.int .i64 (pop s)) ∧ u = w' := fun u => by rw [← hpp]; exact l1Many_any (putR k s) u hxl
          have HM := Lib.hid hM
          have hPut : ∀ u, Calls Try.prog 92 #[.int .i64 (s : Nat), .int .i64 (k : Nat)] u fun e w' => e = .returned (.int .i64 (putR k s : Nat)) ∧ u = w' := fun u => specPut_any s k hs9 (by omega) u
          have HPut := Lib.hid hPut
          have HV := Lib.hid (HQ.out s hlt)
          clear hM hPut hpp hxl
          generalize putR k s = z at *
          go_wp2_with fail
          refine (HPut.out _).mono ?_
          rintro _ _ ⟨rfl, rfl⟩
          go_wp2_with fail
          refine (specPivotOk_any _ _ _ _ _ _ _ _ _ L3.edges hl).mono ?_
          rintro e4 w4 ⟨rfl, hb4⟩
          rw [HV.out]
          have L4 := L3.step hb4 L3.lt
          have own4 := own.below hb4 own.lt
          clear own L3 hb4 c0 c1 s3
          cases hv : q s with
          | true =>
            have hhit := Lib.hid (cntR_hit (m := es.length) hv)
            have hpl := hpl.out
            have hgl := HG.out
            have hcz := cntS_le q s (pop s)
            obtain ⟨x1, f1⟩ := own4.slot (k := pop s) (by omega)
            rw [cntR_getD q s (show pop s < es.length by omega)] at x1
            have hst := own4.store (pop s) ((cntS q s (pop s) : Nat) + 1)
            rw [hhit.out] at hst
            have HS := Lib.hid hst
            have hgg := own4.ge g rfl
            clear own4 hst hhit hv
            have wz : IntKind.i64.wrap (((cntS q s (pop s) : Nat) : Int) + 1) = ((cntS q s (pop s) : Nat) : Int) + 1 := IntWalk.i64_in _ (by omega)
            generalize cntS q s (pop s) = y at *
            generalize pop s = x at *
            go_wp2_with (go_at_call 56; refine (HM.out _).mono ?_; rintro _ _ ⟨rfl, rfl⟩)
            go_roundw
            case rel => exact ⟨s + 1, by omega, by go_num, HS.out, L4.step ((Below.refl (w.heap.size + 1) _).setCell (by simpa using hgg) _) (by omega)⟩
            case measure => simp [intOf]; omega
          | false =>
            rw [← cntR_miss (m := es.length) hv] at own4
            clear hv
            go_wp2_with fail
            go_roundw
            case rel => exact ⟨s + 1, by omega, by go_num, own4, L4⟩
            case measure => simp [intOf]; omega
        · obtain rfl : s = P := by omega
          rw [HC.out] at own
          go_wp2_with fail
          go_returns
          exact ⟨some ⟨g, 0, none⟩, es.length, by rw [HLL.out]; rfl, by rw [HLL.out]; exact own.more (by omega), L3.below⟩

/-- A row of n numbers was given back, n not 0. -/
def GotAs (w : World) (n : Nat) (xs : List Int) (e : Ending) (w' : World) : Prop :=
  ∃ g c, e = .returned (.slice (some ⟨g, 0, none⟩) n c) ∧ OwnI w' w.heap.size (.slice (some ⟨g, 0, none⟩) n c) xs ∧ Below w.heap.size w w'
theorem GotInts.gotAs {w w' : World} {xs : List Int} {n : Nat} {e : Ending} (hl : xs.length = n) (h1 : 1 ≤ n) (h : GotInts w xs e w') : GotAs w n xs e w' := by
  obtain ⟨A, c, rfl, own, hb⟩ := h
  rcases own.form with ⟨_, h0⟩ | ⟨g, c', hv, _, _⟩
  · subst h0; simp at hl; omega
  · injection hv with hA _ hc
    subst hA
    exact ⟨g, c, by rw [hl], by rw [hl] at own; exact own, hb⟩

/-- Sums of rows: of the first j rows, and of the first i numbers of the next one. -/
def accR (f : Nat → Nat → Nat) (j i k : Nat) : Int := ((sumN (fun t => f t k) j + if k < i then f j k else 0 : Nat) : Int)
theorem accR_start (f : Nat → Nat → Nat) (n : Nat) : rowL (accR f 0 0) n = List.replicate n 0 := by
  rw [rowL_zero]; exact rowL_congr fun k _ => by simp [accR, sumN]
theorem accR_next (f : Nat → Nat → Nat) (j n : Nat) : rowL (accR f j n) n = rowL (accR f (j + 1) 0) n := rowL_congr fun k hk => by
  simp [accR, hk, sumN]
theorem accR_step (f : Nat → Nat → Nat) (j i n : Nat) : (rowL (accR f j i) n).set i (accR f j i i + (f j i : Nat)) = rowL (accR f j (i + 1)) n := by
  rw [rowL_set]
  refine rowL_congr fun k _ => ?_
  unfold updI accR
  by_cases h : k = i
  · subst h; simp
  · rw [if_neg h]
    by_cases h2 : k < i
    · rw [if_pos h2, if_pos (by omega)]
    · rw [if_neg h2, if_neg (by omega)]
theorem accR_end (n : Int) (es : List (Int × Int)) (a b : Int) (h : joinOkB n es a b = true) : rowL (accR (fun t k => pivC es a.toNat b.toNat t k) es.length 0) es.length = allPL n es a b := by
  unfold allPL; rw [if_pos h]
  exact rowL_congr fun k _ => by simp [accR]
theorem accR_small {f : Nat → Nat → Nat} (h : ∀ j k, f j k ≤ 256) {j i k : Nat} (hj : j ≤ 9) : 0 ≤ accR f j i k ∧ accR f j i k ≤ 2560 := by
  have h1 := sumN_small (f := fun t => f t k) (c := 256) (fun t => h t k) j
  have h2 := h j k
  unfold accR
  split <;> omega

theorem wt_is {n : Int} {es : List (Int × Int)} {a b at_ : Int} (h : pivOkB n es a b at_ = true) : ((sumN (fun k => pivC es a.toNat b.toNat at_.toNat k) es.length : Nat) : Int) = wtI n es a b at_ := (if_pos h).symm

set_option maxHeartbeats 4000000 in
theorem specWeightOf_any (n a b at_ : Int) (A : Option Addr) (cap : Nat) (es : List (Int × Int)) (w : World) (hes : EdgesIn w w.heap.size A es) (hl : es.length ≤ 1048576) :
    Calls Try.prog 41 #[.agg #[.int .i64 n, .slice A es.length cap], .int .i64 a, .int .i64 b, .int .i64 at_] w fun e w' => e = .returned (.int .i64 (wtI n es a b at_)) ∧ Below w.heap.size w w' := by
  have L0 := ArgNet.start (cap := cap) (n := n) 30 hes
  cases hj : joinOkB n es a b with
  | false =>
    have HL : Hid (wtI n es a b at_ = -1) := wt_not (by rw [pivOkB_iff, hj]; simp)
    have HJ := Lib.hid hj
    clear hj
    rw [HL.out]
    obtain ⟨_, _, c0, c1, s0⟩ := id L0
    go_enter Try.func41, Try.ntmps41
    go_wp2_with fail
    refine (l4Ends_any _ _ _ _ _ _ _ L0.edges hl).mono ?_
    rintro e1 w1 ⟨rfl, hb1⟩
    rw [HJ.out]
    have L1 := L0.step hb1 L0.lt
    clear L0 hb1 c0 c1 s0
    obtain ⟨_, _, c0, c1, s0⟩ := id L1
    go_wp2_with fail
    go_returns
    exact ⟨rfl, L1.below⟩
  | true =>
    have HJ := Lib.hid hj
    cases hat : atIn es at_ with
    | false =>
      have HL : Hid (wtI n es a b at_ = -1) := wt_not (by rw [pivOkB, hj, hat]; simp)
      have HD := Lib.hid (at_dec es at_)
      have HAT := Lib.hid hat
      have wl : IntKind.i64.wrap ((es.length : Int) - 1) = (es.length : Int) - 1 := IntWalk.i64_in _ (by omega)
      clear hj hat
      rw [HL.out]
      obtain ⟨_, _, c0, c1, s0⟩ := id L0
      go_enter Try.func41, Try.ntmps41
      go_wp2_with fail
      refine (l4Ends_any _ _ _ _ _ _ _ L0.edges hl).mono ?_
      rintro e1 w1 ⟨rfl, hb1⟩
      rw [HJ.out]
      have L1 := L0.step hb1 L0.lt
      clear L0 hb1 c0 c1 s0
      obtain ⟨_, _, c0, c1, s0⟩ := id L1
      go_wp2_with fail
      refine (l1In_any _ _ _ _).mono ?_
      rintro e2 w2 ⟨rfl, rfl⟩
      rw [HD.out, HAT.out]
      go_wp2_with fail
      go_returns
      exact ⟨rfl, L1.below⟩
    | true =>
      have hok : pivOkB n es a b at_ = true := by rw [pivOkB, hj, hat]; rfl
      have h9 := joinOk_nine hj
      have hat2 := atIn_iff.1 hat
      have hlen : 1 ≤ es.length := by omega
      have HD := Lib.hid (at_dec es at_)
      have HAT := Lib.hid hat
      have HW := Lib.hid (wt_is hok)
      have HF : Hid (∀ k, pivC es a.toNat b.toNat at_.toNat k ≤ 256) := fun k => pivC_small hj _ _ _ k
      have HG : Hid (∀ k, k < es.length → (pivL n es a b at_).getD k 0 = (pivC es a.toNat b.toNat at_.toNat k : Nat)) := fun k hk => pivL_get hok hk
      have hG : ∀ u : World, EdgesIn u u.heap.size A es → Calls Try.prog 76 #[.agg #[.int .i64 n, .slice A es.length cap], .int .i64 a, .int .i64 b, .int .i64 at_] u (GotAs u es.length (pivL n es a b at_)) := fun u hu =>
        (specPivotCounts_any _ _ _ _ _ _ _ _ hu hl).mono fun e w' h => h.gotAs (pivL_length hok) hlen
      generalize pivL n es a b at_ = L at *
      have HCALL := Lib.hid hG
      have wl : IntKind.i64.wrap ((es.length : Int) - 1) = (es.length : Int) - 1 := IntWalk.i64_in _ (by omega)
      clear hj hG hat hok hat2
      obtain ⟨f, hf⟩ : ∃ f : Nat → Nat, (fun k => pivC es a.toNat b.toNat at_.toNat k) = f := ⟨_, rfl⟩
      have HF' : Hid (∀ k, f k ≤ 256) := fun k => by rw [← hf]; exact HF.out k
      have HG' : Hid (∀ k, k < es.length → L.getD k 0 = (f k : Nat)) := fun k h1 => by rw [← hf]; exact HG.out k h1
      rw [hf] at HW
      clear hf HF HG
      generalize wtI n es a b at_ = R at *
      obtain ⟨_, _, c0, c1, s0⟩ := id L0
      go_enter Try.func41, Try.ntmps41
      go_wp2_with fail
      refine (l4Ends_any _ _ _ _ _ _ _ L0.edges hl).mono ?_
      rintro e1 w1 ⟨rfl, hb1⟩
      rw [HJ.out]
      have L1 := L0.step hb1 L0.lt
      clear L0 hb1 c0 c1 s0
      obtain ⟨_, _, c0, c1, s0⟩ := id L1
      go_wp2_with fail
      refine (l1In_any _ _ _ _).mono ?_
      rintro e2 w2 ⟨rfl, rfl⟩
      rw [HD.out, HAT.out]
      go_wp2_with fail
      refine (HCALL.out _ L1.edges).mono ?_
      rintro e4 w4 ⟨g2, c2, rfl, own2, hb4⟩
      have L4 := L1.step hb4 L1.lt
      clear L1 hb4 c0 c1 s0
      have B4 := L4.below
      clear L4
      go_wp2_with fail
      go_loopw [9, 11] (fun v t wr => ∃ k : Nat, k ≤ es.length ∧ t = .int .i64 (k : Nat) ∧ v = .int .i64 (sumN f k : Nat) ∧ wr = w4) (fun _ t _ => es.length - (intOf t).toNat)
      case atStart => exact ⟨0, by omega, rfl, rfl, rfl⟩
      case round =>
        obtain ⟨k, hk, rfl, rfl, rfl⟩ := hrel
        by_cases hlt : k < es.length
        · obtain ⟨x2, f2⟩ := own2.slot (k := k) hlt
          rw [HG'.out k hlt] at x2
          have z1 : sumN f k ≤ k * 256 := sumN_small HF'.out k
          have z2 := HF'.out k
          have HS : Hid (sumN f (k + 1) = sumN f k + f k) := rfl
          have z3 : sumN f k ≤ 2560 := by omega
          clear z1
          have hsum : ∀ x y z : Nat, x = y + z → y ≤ 2560 → z ≤ 256 → IntKind.i64.wrap ((y : Int) + (z : Int)) = (x : Int) := fun x y z h1 h2 h3 => by rw [IntWalk.i64_in _ (by omega)]; omega
          have wz := hsum _ _ _ HS.out z3 z2
          obtain ⟨x, hx⟩ : ∃ x, sumN f (k + 1) = x := ⟨_, rfl⟩
          rw [hx] at wz
          have HX := Lib.hid hx
          clear hsum hx HS
          generalize sumN f k = y at *
          generalize f k = z at *
          go_wp2_with fail
          go_roundw
          case rel => exact ⟨k + 1, by omega, by go_num, by rw [HX.out], by first | rfl | trivial⟩
          case measure => simp [intOf]; omega
        · obtain rfl : k = es.length := by omega
          rw [HW.out]
          go_wp2_with fail
          go_returns
          exact ⟨rfl, B4⟩
end Go.Proofs.Ytlcgbmeneajfoac
