/- Pivots of the reference: l6Put, PivotOk, PivotCounts. -/
import Derived.Test.YtfflfinhhdhnkabPivV
import Derived.Test.YtfflfinhhdhnkabSpec4
import Derived.Test.YtfflfinhhdhnkabSpecCnt
import Derived.Test.YtfflfinhhdhnkabClass
namespace Go.Proofs.Ytfflfinhhdhnkab
open Go.RowKit
set_option maxRecDepth 100000

theorem specPut_any (s k : Nat) (hs : s < 512) (hk : k ≤ 9) (w : World) :
    Calls Try.prog 56 #[.int .i64 s, .int .i64 k] w fun e w' => e = .returned (.int .i64 (putR k s : Nat)) ∧ w = w' := by
  obtain ⟨P, hP, p1, p2, hp3, hp4⟩ := pow_named hk
  have hput := putR_is k s
  rw [hP] at hput
  have hle : s % P ≤ s := Nat.mod_le s P
  have hm : (s : Int).tmod (P : Int) = ((s % P : Nat) : Int) := by rw [Int.natCast_emod, Int.tmod_eq_emod_of_nonneg (by omega)]
  generalize s % P = low at *
  have wl : IntKind.i64.wrap (low : Int) = (low : Int) := IntWalk.i64_in _ (by omega)
  have ws : IntKind.i64.wrap ((s : Int) - (low : Int)) = ((s - low : Nat) : Int) := by rw [IntWalk.i64_in _ (by omega)]; omega
  have wt : IntKind.i64.wrap (((s - low : Nat) : Int) * 2) = (((s - low) * 2 : Nat) : Int) := by rw [IntWalk.i64_in _ (by omega)]; omega
  have wu : IntKind.i64.wrap ((((s - low) * 2 : Nat) : Int) + (low : Int)) = ((putR k s : Nat) : Int) := by rw [IntWalk.i64_in _ (by omega)]; omega
  have z0 : ((P : Int) == 0) = false := by simp; omega
  have zm : ((P : Int) == -1) = false := by simp
  have z1 : ¬ (P : Int) = 0 := by omega
  generalize putR k s = r at *
  generalize (s - low) * 2 = u at *
  generalize s - low = v at *
  clear hput hle hP
  go_enter Try.func56, Try.ntmps56
  go_wp2_with fail
  go_returns
  exact ⟨by first | rfl | simp [*], rfl⟩

theorem add_small {x y : Nat} (h : x + y < 512) : IntKind.i64.wrap ((x : Int) + (y : Int)) = ((x + y : Nat) : Int) := by rw [IntWalk.i64_in _ (by omega)]; omega

/-- Whether an edge is a pivot, of states that are ones. -/
theorem pivB_eq (n a b s at_ : Int) (es : List (Int × Int)) : pivB n es a b s at_ = (stateOkB n es s && (joinOkB n es a b && (atIn es at_ && pivN es a.toNat b.toNat at_.toNat s.toNat))) := by
  unfold pivB pivOkB; rw [Bool.and_assoc]
theorem at_dec (es : List (Int × Int)) (at_ : Int) : (decide ((0 : Int) ≤ at_) && decide (at_ ≤ (es.length : Int) - 1)) = atIn es at_ := by
  rw [Bool.eq_iff_iff, atIn_iff]; simp; omega

set_option maxHeartbeats 4000000 in
theorem specPivotOk_any (n a b s at_ : Int) (A : Option Addr) (cap : Nat) (es : List (Int × Int)) (w : World) (hes : EdgesIn w w.heap.size A es) (hl : es.length ≤ 1048576) :
    Calls Try.prog 57 #[.agg #[.int .i64 n, .slice A es.length cap], .int .i64 a, .int .i64 b, .int .i64 s, .int .i64 at_] w fun e w' => e = .returned (.bool (pivB n es a b s at_)) ∧ Below w.heap.size w w' := by
  have L0 := ArgNet.start (cap := cap) (n := n) 25 hes
  have wl : IntKind.i64.wrap ((es.length : Int) - 1) = (es.length : Int) - 1 := IntWalk.i64_in _ (by omega)
  rw [pivB_eq]
  cases hst : stateOkB n es s with
  | false =>
    have HST := Lib.hid hst
    clear hst
    obtain ⟨_, _, c0, c1, s0⟩ := id L0
    go_enter Try.func57, Try.ntmps57
    go_wp2_with fail
    refine (specStateOk_any _ _ _ _ _ _ L0.edges hl).mono ?_
    rintro e1 w1 ⟨rfl, hb1⟩
    rw [HST.out]
    have L1 := L0.step hb1 L0.lt
    go_wp2_with fail
    go_returns
    exact ⟨rfl, L1.below⟩
  | true =>
    have HST := Lib.hid hst
    cases hj : joinOkB n es a b with
    | false =>
      have HJ := Lib.hid hj
      clear hst hj
      obtain ⟨_, _, c0, c1, s0⟩ := id L0
      go_enter Try.func57, Try.ntmps57
      go_wp2_with fail
      refine (specStateOk_any _ _ _ _ _ _ L0.edges hl).mono ?_
      rintro e1 w1 ⟨rfl, hb1⟩
      rw [HST.out]
      have L1 := L0.step hb1 L0.lt
      clear L0 hb1 c0 c1 s0
      obtain ⟨_, _, c0, c1, s0⟩ := id L1
      go_wp2_with fail
      refine (l4Ends_any _ _ _ _ _ _ _ L1.edges hl).mono ?_
      rintro e2 w2 ⟨rfl, hb2⟩
      rw [HJ.out]
      have L2 := L1.step hb2 L1.lt
      go_wp2_with fail
      go_returns
      exact ⟨rfl, L2.below⟩
    | true =>
      have HJ := Lib.hid hj
      have HD := Lib.hid (at_dec es at_)
      cases hat : atIn es at_ with
      | false =>
        have HAT := Lib.hid hat
        clear hst hj hat
        obtain ⟨_, _, c0, c1, s0⟩ := id L0
        go_enter Try.func57, Try.ntmps57
        go_wp2_with fail
        refine (specStateOk_any _ _ _ _ _ _ L0.edges hl).mono ?_
        rintro e1 w1 ⟨rfl, hb1⟩
        rw [HST.out]
        have L1 := L0.step hb1 L0.lt
        clear L0 hb1 c0 c1 s0
        obtain ⟨_, _, c0, c1, s0⟩ := id L1
        go_wp2_with fail
        refine (l4Ends_any _ _ _ _ _ _ _ L1.edges hl).mono ?_
        rintro e2 w2 ⟨rfl, hb2⟩
        rw [HJ.out]
        have L2 := L1.step hb2 L1.lt
        clear L1 hb2 c0 c1 s0
        obtain ⟨_, _, c0, c1, s0⟩ := id L2
        go_wp2_with fail
        refine (l1In_any _ _ _ _).mono ?_
        rintro e3 w3 ⟨rfl, rfl⟩
        rw [HD.out, HAT.out]
        go_wp2_with fail
        go_returns
        exact ⟨rfl, L2.below⟩
      | true =>
        have HAT := Lib.hid hat
        have h9 := joinOk_nine hj
        obtain ⟨a0, a1⟩ := atIn_iff.1 hat
        obtain ⟨-, s0, s1⟩ := stateOkB_iff.1 hst
        obtain ⟨k, rfl⟩ : ∃ k : Nat, at_ = k := ⟨at_.toNat, by omega⟩
        obtain ⟨S, rfl⟩ : ∃ S : Nat, s = S := ⟨s.toNat, by omega⟩
        have hk9 : k < 9 := by omega
        obtain ⟨l, hl1⟩ : ∃ l, es.length = l + 1 := ⟨es.length - 1, by omega⟩
        have hS : S < 2 ^ es.length := by
          have h2 : ((2 : Nat) : Int) = 2 := rfl
          have : ((S : Nat) : Int) < ((2 ^ es.length : Nat) : Int) := by rw [Int.natCast_pow, h2]; exact s1
          exact Int.ofNat_lt.1 this
        have hS9 : S < 512 := Nat.lt_of_lt_of_le hS (Nat.pow_le_pow_right (n := 2) (by omega) h9)
        obtain ⟨t, ht, he⟩ := clr_put (k := k) (l := l) (by omega) (by omega) (by rw [← hl1]; exact hS)
        have hC : clrN k S < 2 ^ es.length := Nat.lt_of_le_of_lt (clr_le k S) hS
        have hC2 : clrN k S + 2 ^ k < 2 ^ es.length := by rw [← he, hl1]; exact putR_more_lt (by omega) ht
        have hCP : clrN k S + 2 ^ k < 512 := Nat.lt_of_lt_of_le hC2 (Nat.pow_le_pow_right (n := 2) (by omega) h9)
        have hN := andNot_clr k S hk9 hS9
        have J1 : ∀ u, ArgNet w u n A cap es → Calls Try.prog 71 #[.agg #[.int .i64 n, .slice A es.length cap], .int .i64 (clrN k S + 2 ^ k : Nat), .int .i64 a, .int .i64 b] u fun e w' => e = .returned (.bool (joinS es a.toNat b.toNat (clrN k S + 2 ^ k))) ∧ Below u.heap.size u w' :=
          fun u hu => by rw [← joined_state hj hC2]; exact specJoinedOk_any _ _ _ _ _ _ _ _ hu.edges hl
        have J0 : ∀ u, ArgNet w u n A cap es → Calls Try.prog 71 #[.agg #[.int .i64 n, .slice A es.length cap], .int .i64 (clrN k S : Nat), .int .i64 a, .int .i64 b] u fun e w' => e = .returned (.bool (joinS es a.toNat b.toNat (clrN k S))) ∧ Below u.heap.size u w' :=
          fun u hu => by rw [← joined_state hj hC]; exact specJoinedOk_any _ _ _ _ _ _ _ _ hu.edges hl
        have HV : Hid (pivN es a.toNat b.toNat k S = (joinS es a.toNat b.toNat (clrN k S + 2 ^ k) && !joinS es a.toNat b.toNat (clrN k S))) := rfl
        rw [show ((k : Nat) : Int).toNat = k from rfl, show ((S : Nat) : Int).toNat = S from rfl]
        generalize joinS es a.toNat b.toNat (clrN k S + 2 ^ k) = v1 at *
        generalize joinS es a.toNat b.toNat (clrN k S) = v0 at *
        generalize pivN es a.toNat b.toNat k S = v at *
        obtain ⟨P, hP, p1, p2, hp3, hp4⟩ := pow_named (show k ≤ 9 by omega)
        rw [hP] at J1 hCP
        rw [hp3] at hN
        have hw := add_small hCP
        generalize clrN k S + P = C1 at *
        generalize clrN k S = C at *
        have HJ1 := Lib.hid J1
        have HJ0 := Lib.hid J0
        clear hst hj hat J1 J0 hS hC hC2 he ht hP s1 hl1 hCP
        obtain ⟨_, _, c0, c1, s0'⟩ := id L0
        go_enter Try.func57, Try.ntmps57
        go_wp2_with fail
        refine (specStateOk_any _ _ _ _ _ _ L0.edges hl).mono ?_
        rintro e1 w1 ⟨rfl, hb1⟩
        rw [HST.out]
        have L1 := L0.step hb1 L0.lt
        clear L0 hb1 c0 c1 s0'
        obtain ⟨_, _, c0, c1, s0'⟩ := id L1
        go_wp2_with fail
        refine (l4Ends_any _ _ _ _ _ _ _ L1.edges hl).mono ?_
        rintro e2 w2 ⟨rfl, hb2⟩
        rw [HJ.out]
        have L2 := L1.step hb2 L1.lt
        clear L1 hb2 c0 c1 s0'
        obtain ⟨_, _, c0, c1, s0'⟩ := id L2
        go_wp2_with fail
        refine (l1In_any _ _ _ _).mono ?_
        rintro e3 w3 ⟨rfl, rfl⟩
        rw [HD.out, HAT.out]
        cases v1 <;> cases v0
        all_goals
          go_wp2_with fail
          refine wp_region_class (fun u => ArgNet w u n A cap es) (by kernel_rfl) (by kernel_rfl) L2.drew ?_
          intro X hX f hf hex
          have k0 : ∀ x, (f x).cell? ⟨w.heap.size, 0, none⟩ = some (.int .i64 n) := fun x => (hf x).c0
          have k1 : ∀ x, (f x).cell? ⟨w.heap.size, 1, none⟩ = some (.slice A es.length cap) := fun x => (hf x).c1
          repeat (go_big_quiet_step (first
            | (go_at_call 71; with_reducible exact class_of hex (HJ1.out _ (hf _)) (hf _).on)
            | (go_at_call 71; with_reducible exact class_of hex (HJ0.out _ (hf _)) (hf _).on)))
          refine wpQuiet_nil ?_
          rintro _ ⟨x, rfl⟩
          have L4 := hf x
          go_wp2_with fail
          go_returns
          exact ⟨retB (by rw [HV.out]; rfl), L4.below⟩

theorem pivB_put {n : Int} {es : List (Int × Int)} {a b : Int} {k s : Nat} (h : pivOkB n es a b (k : Nat) = true) (hs : s < 2 ^ (es.length - 1)) : pivB n es a b (putR k s : Nat) (k : Nat) = pivS es a.toNat b.toNat k s := by
  obtain ⟨p1, p2, -, -, -, p6, -⟩ := piv_parts h
  have hk : k < es.length := by simpa using p6
  obtain ⟨l, hl⟩ : ∃ l, es.length = l + 1 := ⟨es.length - 1, by omega⟩
  have hx : putR k s < 2 ^ es.length := by rw [hl] at hs ⊢; exact putR_lt k l s (by omega) hs
  unfold pivB
  rw [state_of p1 hx, h, show ((k : Nat) : Int).toNat = k from rfl, show ((putR k s : Nat) : Int).toNat = putR k s from rfl, pivN_put]
  rfl

set_option maxHeartbeats 4000000 in
theorem specPivotCounts_any (n a b at_ : Int) (A : Option Addr) (cap : Nat) (es : List (Int × Int)) (w : World) (hes : EdgesIn w w.heap.size A es) (hl : es.length ≤ 1048576) :
    Calls Try.prog 25 #[.agg #[.int .i64 n, .slice A es.length cap], .int .i64 a, .int .i64 b, .int .i64 at_] w (GotInts w (pivL n es a b at_)) := by
  have L0 := ArgNet.start (cap := cap) (n := n) 25 hes
  cases hj : joinOkB n es a b with
  | false =>
    have HL : Hid (pivL n es a b at_ = []) := pivL_not (by rw [pivOkB_iff, hj]; simp)
    have HJ := Lib.hid hj
    clear hj
    obtain ⟨_, _, c0, c1, s0⟩ := id L0
    go_enter Try.func25, Try.ntmps25
    go_wp2_with fail
    refine (l4Ends_any _ _ _ _ _ _ _ L0.edges hl).mono ?_
    rintro e1 w1 ⟨rfl, hb1⟩
    rw [HJ.out]
    have L1 := L0.step hb1 L0.lt
    clear L0 hb1 c0 c1 s0
    obtain ⟨_, _, c0, c1, s0⟩ := id L1
    go_wp2_with fail
    go_returns
    exact ⟨some ⟨w1.heap.size, 0, none⟩, 0, by rw [HL.out]; rfl, by rw [HL.out]; exact OwnI.empty w1 (by omega), L1.below.alloc (by omega) _⟩
  | true =>
    have HJ := Lib.hid hj
    cases hat : atIn es at_ with
    | false =>
      have HL : Hid (pivL n es a b at_ = []) := pivL_not (by rw [pivOkB, hj, hat]; simp)
      have HD := Lib.hid (at_dec es at_)
      have HAT := Lib.hid hat
      have wl : IntKind.i64.wrap ((es.length : Int) - 1) = (es.length : Int) - 1 := IntWalk.i64_in _ (by omega)
      clear hj hat
      obtain ⟨_, _, c0, c1, s0⟩ := id L0
      go_enter Try.func25, Try.ntmps25
      go_wp2_with fail
      refine (l4Ends_any _ _ _ _ _ _ _ L0.edges hl).mono ?_
      rintro e1 w1 ⟨rfl, hb1⟩
      rw [HJ.out]
      have L1 := L0.step hb1 L0.lt
      clear L0 hb1 c0 c1 s0
      obtain ⟨_, _, c0, c1, s0⟩ := id L1
      go_wp2_with fail
      refine (l1In_any _ _ _ _).mono ?_
      rintro e2 w2 ⟨rfl, rfl⟩
      rw [HD.out, HAT.out]
      go_wp2_with fail
      go_returns
      exact ⟨some ⟨w1.heap.size, 0, none⟩, 0, by rw [HL.out]; rfl, by rw [HL.out]; exact OwnI.empty w1 (by omega), L1.below.alloc (by omega) _⟩
    | true =>
      have hok : pivOkB n es a b at_ = true := by rw [pivOkB, hj, hat]; rfl
      have h9 := joinOk_nine hj
      obtain ⟨a0, a1⟩ := atIn_iff.1 hat
      obtain ⟨k, rfl⟩ : ∃ k : Nat, at_ = k := ⟨at_.toNat, by omega⟩
      have hk9 : k < 9 := by omega
      obtain ⟨l, hl1⟩ : ∃ l, es.length - 1 = l := ⟨_, rfl⟩
      have hl8 : l ≤ 8 := by omega
      have wl : IntKind.i64.wrap ((es.length : Int) - 1) = ((l : Nat) : Int) := by rw [IntWalk.i64_in _ (by omega)]; omega
      have HD : Hid ((decide ((0 : Int) ≤ (k : Nat)) && decide (((k : Nat) : Int) ≤ ((l : Nat) : Int))) = true) := by rw [Hid, Bool.and_eq_true, decide_eq_true_eq, decide_eq_true_eq]; omega
      have HQ : Hid (∀ s : Nat, s < 2 ^ l → pivB n es a b (putR k s : Nat) (k : Nat) = pivS es a.toNat b.toNat k s) := fun s hs => pivB_put hok (by rw [hl1]; exact hs)
      have HC := Lib.hid (piv_cnt hok)
      have HLL := Lib.hid (pivL_length hok)
      have HG : Hid (l < es.length) := by rw [Hid]; omega
      rw [show ((k : Nat) : Int).toNat = k from rfl, hl1] at HC
      clear hj hat hok a0 a1 hl1
      obtain ⟨q, hq⟩ : ∃ q : Nat → Bool, pivS es a.toNat b.toNat k = q := ⟨_, rfl⟩
      rw [hq] at HC HQ
      clear hq
      obtain ⟨P, hP, p1, p2, hp3, hp4⟩ := pow_named (show l ≤ 9 by omega)
      rw [hP] at HC HQ
      have HP := Lib.hid hP
      clear hP
      obtain ⟨L, hL⟩ : ∃ L, pivL n es a b (k : Nat) = L := ⟨_, rfl⟩
      rw [hL] at HC HLL ⊢
      clear hL
      obtain ⟨i0, hi0, hz0, hz1, hz2⟩ := info_parts int_info
      obtain ⟨_, _, c0, c1, s0⟩ := id L0
      go_enter Try.func25, Try.ntmps25
      go_wp2_with fail
      refine (l4Ends_any _ _ _ _ _ _ _ L0.edges hl).mono ?_
      rintro e1 w1 ⟨rfl, hb1⟩
      rw [HJ.out]
      have L1 := L0.step hb1 L0.lt
      clear L0 hb1 c0 c1 s0
      obtain ⟨_, _, c0, c1, s0⟩ := id L1
      go_wp2_with fail
      refine (l1In_any _ _ _ _).mono ?_
      rintro e2 w2 ⟨rfl, rfl⟩
      rw [HD.out]
      go_wp2_with (at_make; refine wpList_make_full _ rfl _ _ 49 rfl (w.heap.size + 1) 3 i0 _ 1 Try.underlying49 hi0 hz0 hz1 .i64 .i64 es.length es.length es.length rfl rfl rfl rfl (by rw [hz2]; omega) (by simp [maxLen]; omega) (by omega) ?_; intro w2 hown2 hg2)
      have hst : OwnI w2 (w.heap.size + 1) (.slice (some ⟨w1.heap.size, 0, none⟩) es.length es.length) (cntR q 0 es.length) := by
        rw [cntR_zero]
        unfold OwnI; rw [List.length_replicate, ← madeCells_ints]; exact hown2
      have hb2 : Below (w.heap.size + 1) w1 w2 := (Below.refl _ _).grown hg2 (by omega) (by simp)
      have L2 := L1.step hb2 (by omega)
      clear hown2 hg2 hz1 hz2 hi0 hz0 hb2 L1 c0 c1
      generalize hg : w1.heap.size = g at *
      obtain ⟨_, _, c0, c1, s2⟩ := id L2
      go_wp2_with fail
      go_loopw [10, 11] (fun t _ wr => ∃ s : Nat, s ≤ P ∧ t = .int .i64 (s : Nat) ∧ OwnI wr (w.heap.size + 1) (.slice (some ⟨g, 0, none⟩) es.length es.length) (cntR q s es.length) ∧ ArgNet w wr n A cap es) (fun t _ _ => P - (intOf t).toNat)
      case atStart => exact ⟨0, by omega, rfl, hst, L2⟩
      case round =>
        clear hst L2
        obtain ⟨s, hs, rfl, own, L3⟩ := hrel
        obtain ⟨_, _, c0, c1, s3⟩ := id L3
        by_cases hlt : s < P
        · have hs9 : s < 512 := by omega
          have hpp : pop (putR k s) = pop s := (pop_put k s (by omega) hs9).1
          have hpl : Hid (pop s ≤ l) := pop_low (by rw [HP.out]; exact hlt) (by omega)
          have hxl : putR k s < 9223372036854775808 := Nat.lt_trans (putR_lt k 9 s (by omega) hs9) (by omega)
          have hM : ∀ u, Calls Try.prog 58 #[.int .i64 (putR k s : Nat)] u fun e w' => e = .returned (.int .i64 (pop s)) ∧ u = w' := fun u => by rw [← hpp]; exact l1Many_any (putR k s) u hxl
          have HM := Lib.hid hM
          have hPut : ∀ u, Calls Try.prog 56 #[.int .i64 (s : Nat), .int .i64 (k : Nat)] u fun e w' => e = .returned (.int .i64 (putR k s : Nat)) ∧ u = w' := fun u => specPut_any s k hs9 (by omega) u
          have HPut := Lib.hid hPut
          have HV := Lib.hid (HQ.out s hlt)
          clear hM hPut hpp hxl
          generalize putR k s = z at *
          go_wp2_with fail
          refine (HPut.out _).mono ?_
          rintro _ _ ⟨rfl, rfl⟩
          go_wp2_with fail
          refine (specPivotOk_any _ _ _ _ _ _ _ _ _ L3.edges hl).mono ?_
          rintro e4 w4 ⟨rfl, hb4⟩
          rw [HV.out]
          have L4 := L3.step hb4 L3.lt
          have own4 := own.below hb4 own.lt
          clear own L3 hb4 c0 c1 s3
          cases hv : q s with
          | true =>
            have hhit := Lib.hid (cntR_hit (m := es.length) hv)
            have hpl := hpl.out
            have hgl := HG.out
            have hcz := cntS_le q s (pop s)
            obtain ⟨x1, f1⟩ := own4.slot (k := pop s) (by omega)
            rw [cntR_getD q s (show pop s < es.length by omega)] at x1
            have hst := own4.store (pop s) ((cntS q s (pop s) : Nat) + 1)
            rw [hhit.out] at hst
            have HS := Lib.hid hst
            have hgg := own4.ge g rfl
            clear own4 hst hhit hv
            have wz : IntKind.i64.wrap (((cntS q s (pop s) : Nat) : Int) + 1) = ((cntS q s (pop s) : Nat) : Int) + 1 := IntWalk.i64_in _ (by omega)
            generalize cntS q s (pop s) = y at *
            generalize pop s = x at *
            go_wp2_with (go_at_call 58; refine (HM.out _).mono ?_; rintro _ _ ⟨rfl, rfl⟩)
            go_roundw
            case rel => exact ⟨s + 1, by omega, by go_num, HS.out, L4.step ((Below.refl (w.heap.size + 1) _).setCell (by simpa using hgg) _) (by omega)⟩
            case measure => simp [intOf]; omega
          | false =>
            rw [← cntR_miss (m := es.length) hv] at own4
            clear hv
            go_wp2_with fail
            go_roundw
            case rel => exact ⟨s + 1, by omega, by go_num, own4, L4⟩
            case measure => simp [intOf]; omega
        · obtain rfl : s = P := by omega
          rw [HC.out] at own
          go_wp2_with fail
          go_returns
          exact ⟨some ⟨g, 0, none⟩, es.length, by rw [HLL.out]; rfl, by rw [HLL.out]; exact own.more (by omega), L3.below⟩

/-- A row of n numbers was given back, n not 0. -/
def GotAs (w : World) (n : Nat) (xs : List Int) (e : Ending) (w' : World) : Prop :=
  ∃ g c, e = .returned (.slice (some ⟨g, 0, none⟩) n c) ∧ OwnI w' w.heap.size (.slice (some ⟨g, 0, none⟩) n c) xs ∧ Below w.heap.size w w'
theorem GotInts.gotAs {w w' : World} {xs : List Int} {n : Nat} {e : Ending} (hl : xs.length = n) (h1 : 1 ≤ n) (h : GotInts w xs e w') : GotAs w n xs e w' := by
  obtain ⟨A, c, rfl, own, hb⟩ := h
  rcases own.form with ⟨_, h0⟩ | ⟨g, c', hv, _, _⟩
  · subst h0; simp at hl; omega
  · injection hv with hA _ hc
    subst hA
    exact ⟨g, c, by rw [hl], by rw [hl] at own; exact own, hb⟩

/-- Sums of rows: of the first j rows, and of the first i numbers of the next one. -/
def accR (f : Nat → Nat → Nat) (j i k : Nat) : Int := ((sumN (fun t => f t k) j + if k < i then f j k else 0 : Nat) : Int)
theorem accR_start (f : Nat → Nat → Nat) (n : Nat) : rowL (accR f 0 0) n = List.replicate n 0 := by
  rw [rowL_zero]; exact rowL_congr fun k _ => by simp [accR, sumN]
theorem accR_next (f : Nat → Nat → Nat) (j n : Nat) : rowL (accR f j n) n = rowL (accR f (j + 1) 0) n := rowL_congr fun k hk => by
  simp [accR, hk, sumN]
theorem accR_step (f : Nat → Nat → Nat) (j i n : Nat) : (rowL (accR f j i) n).set i (accR f j i i + (f j i : Nat)) = rowL (accR f j (i + 1)) n := by
  rw [rowL_set]
  refine rowL_congr fun k _ => ?_
  unfold updI accR
  by_cases h : k = i
  · subst h; simp
  · rw [if_neg h]
    by_cases h2 : k < i
    · rw [if_pos h2, if_pos (by omega)]
    · rw [if_neg h2, if_neg (by omega)]
theorem accR_end (n : Int) (es : List (Int × Int)) (a b : Int) (h : joinOkB n es a b = true) : rowL (accR (fun t k => pivC es a.toNat b.toNat t k) es.length 0) es.length = allPL n es a b := by
  unfold allPL; rw [if_pos h]
  exact rowL_congr fun k _ => by simp [accR]
theorem accR_small {f : Nat → Nat → Nat} (h : ∀ j k, f j k ≤ 256) {j i k : Nat} (hj : j ≤ 9) : 0 ≤ accR f j i k ∧ accR f j i k ≤ 2560 := by
  have h1 := sumN_small (f := fun t => f t k) (c := 256) (fun t => h t k) j
  have h2 := h j k
  unfold accR
  split <;> omega

set_option maxHeartbeats 4000000 in
theorem specAllPivots_any (n a b : Int) (A : Option Addr) (cap : Nat) (es : List (Int × Int)) (w : World) (hes : EdgesIn w w.heap.size A es) (hl : es.length ≤ 1048576) :
    Calls Try.prog 29 #[.agg #[.int .i64 n, .slice A es.length cap], .int .i64 a, .int .i64 b] w (GotInts w (allPL n es a b)) := by
  have L0 := ArgNet.start (cap := cap) (n := n) 25 hes
  cases hj : joinOkB n es a b with
  | false =>
    have HL : Hid (allPL n es a b = []) := if_neg (by rw [hj]; simp)
    have HJ := Lib.hid hj
    clear hj
    obtain ⟨_, _, c0, c1, s0⟩ := id L0
    go_enter Try.func29, Try.ntmps29
    go_wp2_with fail
    refine (l4Ends_any _ _ _ _ _ _ _ L0.edges hl).mono ?_
    rintro e1 w1 ⟨rfl, hb1⟩
    rw [HJ.out]
    have L1 := L0.step hb1 L0.lt
    clear L0 hb1 c0 c1 s0
    obtain ⟨_, _, c0, c1, s0⟩ := id L1
    go_wp2_with fail
    go_returns
    exact ⟨some ⟨w1.heap.size, 0, none⟩, 0, by rw [HL.out]; rfl, by rw [HL.out]; exact OwnI.empty w1 (by omega), L1.below.alloc (by omega) _⟩
  | true =>
    have HJ := Lib.hid hj
    have h9 := joinOk_nine hj
    have HC := Lib.hid (accR_end n es a b hj)
    have HL : Hid ((allPL n es a b).length = es.length) := by unfold allPL; rw [Hid, if_pos hj, rowL_length]
    have HF : Hid (∀ j k, pivC es a.toNat b.toNat j k ≤ 256) := fun j k => pivC_small hj _ _ j k
    have HG : Hid (∀ j i : Nat, j < es.length → i < es.length → (pivL n es a b (j : Nat)).getD i 0 = (pivC es a.toNat b.toNat j i : Nat)) := fun j i hjl hil => by
      have := pivL_get (n := n) (es := es) (a := a) (b := b) (at_ := (j : Nat)) (pivOkB_iff.2 ⟨hj, by omega, by omega⟩) hil
      rw [this]; rfl
    have HLL : Hid (∀ j : Nat, j < es.length → (pivL n es a b (j : Nat)).length = es.length) := fun j hjl => pivL_length (pivOkB_iff.2 ⟨hj, by omega, by omega⟩)
    have hG : ∀ (j : Nat) (u : World), j < es.length → EdgesIn u u.heap.size A es → Calls Try.prog 25 #[.agg #[.int .i64 n, .slice A es.length cap], .int .i64 a, .int .i64 b, .int .i64 (j : Nat)] u (GotAs u es.length (pivL n es a b (j : Nat))) := fun j u hjl hu =>
      (specPivotCounts_any _ _ _ _ _ _ _ _ hu hl).mono fun e w' h => h.gotAs (HLL.out j hjl) (by omega)
    have HCALL := Lib.hid hG
    clear hj hG HLL
    obtain ⟨f, hf⟩ : ∃ f : Nat → Nat → Nat, (fun t k => pivC es a.toNat b.toNat t k) = f := ⟨_, rfl⟩
    have HF' : Hid (∀ j k, f j k ≤ 256) := fun j k => by rw [← hf]; exact HF.out j k
    have HG' : Hid (∀ j i : Nat, j < es.length → i < es.length → (pivL n es a b (j : Nat)).getD i 0 = (f j i : Nat)) := fun j i h1 h2 => by rw [← hf]; exact HG.out j i h1 h2
    rw [hf] at HC
    clear hf HF HG
    obtain ⟨R, hR⟩ : ∃ R, allPL n es a b = R := ⟨_, rfl⟩
    rw [hR] at HC HL ⊢
    clear hR
    obtain ⟨i0, hi0, hz0, hz1, hz2⟩ := info_parts int_info
    obtain ⟨_, _, c0, c1, s0⟩ := id L0
    go_enter Try.func29, Try.ntmps29
    go_wp2_with fail
    refine (l4Ends_any _ _ _ _ _ _ _ L0.edges hl).mono ?_
    rintro e1 w1 ⟨rfl, hb1⟩
    rw [HJ.out]
    have L1 := L0.step hb1 L0.lt
    clear L0 hb1 c0 c1 s0
    obtain ⟨_, _, c0, c1, s0⟩ := id L1
    go_wp2_with (at_make; refine wpList_make_full _ rfl _ _ 49 rfl (w.heap.size + 1) 3 i0 _ 1 Try.underlying49 hi0 hz0 hz1 .i64 .i64 es.length es.length es.length rfl rfl rfl rfl (by rw [hz2]; omega) (by simp [maxLen]; omega) (by omega) ?_; intro w2 hown2 hg2)
    have hst : OwnI w2 (w.heap.size + 1) (.slice (some ⟨w1.heap.size, 0, none⟩) es.length es.length) (rowL (accR f 0 0) es.length) := by
      rw [accR_start]
      unfold OwnI; rw [List.length_replicate, ← madeCells_ints]; exact hown2
    have hb2 : Below (w.heap.size + 1) w1 w2 := (Below.refl _ _).grown hg2 (by omega) (by simp)
    have L2 := L1.step hb2 (by omega)
    clear hown2 hg2 hz1 hz2 hi0 hz0 hb2 L1 c0 c1
    generalize hg : w1.heap.size = g at *
    obtain ⟨_, _, c0, c1, s2⟩ := id L2
    go_wp2_with fail
    go_loopw [8, 9, 10] (fun t _ _ wr => ∃ j : Nat, j ≤ es.length ∧ t = .int .i64 (j : Nat) ∧ OwnI wr (w.heap.size + 1) (.slice (some ⟨g, 0, none⟩) es.length es.length) (rowL (accR f j 0) es.length) ∧ ArgNet w wr n A cap es) (fun t _ _ _ => es.length - (intOf t).toNat)
    case atStart => exact ⟨0, by omega, rfl, hst, L2⟩
    case round =>
      clear hst L2
      obtain ⟨j, hj, rfl, own, L3⟩ := hrel
      obtain ⟨_, _, c0, c1, s3⟩ := id L3
      by_cases hlt : j < es.length
      · have HGet : Hid (∀ i : Nat, i < es.length → (pivL n es a b (j : Nat)).getD i 0 = (f j i : Nat)) := fun i hi => HG'.out j i hlt hi
        have hcall := HCALL.out j
        generalize pivL n es a b (j : Nat) = L at *
        have HCall := Lib.hid hcall
        clear hcall
        go_wp2_with fail
        refine (HCall.out _ hlt L3.edges).mono ?_
        rintro e4 w4 ⟨g2, c2, rfl, own2, hb4⟩
        have L4 := L3.step hb4 L3.lt
        have own4 := own.below hb4 own.lt
        have hg2 : g < g2 := by
          have h1 := own2.ge g2 rfl
          have h2 := own.lt g rfl
          omega
        have own2 := own2.more (base' := 0) (by omega)
        clear own L3 hb4 c0 c1 s3
        obtain ⟨_, _, c0, c1, s3⟩ := id L4
        go_wp2_with fail
        go_loopw [10] (fun t wr => ∃ i : Nat, i ≤ es.length ∧ t = .int .i64 (i : Nat) ∧ OwnI wr (w.heap.size + 1) (.slice (some ⟨g, 0, none⟩) es.length es.length) (rowL (accR f j i) es.length) ∧ OwnI wr 0 (.slice (some ⟨g2, 0, none⟩) es.length c2) L ∧ ArgNet w wr n A cap es) (fun t _ => es.length - (intOf t).toNat)
        case atStart => exact ⟨0, by omega, rfl, own4, own2, L4⟩
        case round =>
          clear own4 own2 L4
          obtain ⟨i, hi, rfl, own, own2, L5⟩ := hrel
          by_cases hlt2 : i < es.length
          · obtain ⟨x1, f1⟩ := own.slot (k := i) hlt2
            rw [rowL_getD _ hlt2] at x1
            obtain ⟨x2, f2⟩ := own2.slot (k := i) hlt2
            rw [HGet.out i hlt2] at x2
            obtain ⟨z0, z1⟩ := accR_small HF'.out (j := j) (i := i) (k := i) (by omega)
            have z2 := HF'.out j i
            have hst := own.store i (accR f j i i + (f j i : Nat))
            rw [accR_step] at hst
            have HS := Lib.hid hst
            have hgg := own.ge g rfl
            have HS2 := Lib.hid (own2.far (p := ⟨g, i, none⟩) (fun k hk => by simp [Value.ownBlock] at hk; subst hk; simp; omega) (.int .i64 (accR f j i i + (f j i : Nat))))
            clear own own2 hst
            generalize accR f j i i = z at *
            generalize f j i = y at *
            have wz : IntKind.i64.wrap (z + (y : Int)) = z + (y : Int) := IntWalk.i64_in _ (by omega)
            go_wp2_with fail
            go_region
            go_wp2_with fail
            go_roundw
            case rel => exact ⟨i + 1, by omega, by go_num, HS.out.drew, HS2.out.drew, (L5.step ((Below.refl (w.heap.size + 1) _).setCell (by simpa using hgg) _) (by omega)).drew⟩
            case measure => simp [intOf]; omega
          · obtain rfl : i = es.length := by omega
            rw [accR_next] at own
            go_wp2_with fail
            go_roundw
            case rel => exact ⟨j + 1, by omega, by go_num, own, L5⟩
            case measure => simp [intOf]; omega
      · obtain rfl : j = es.length := by omega
        rw [HC.out] at own
        go_wp2_with fail
        go_returns
        exact ⟨some ⟨g, 0, none⟩, es.length, by rw [HL.out]; rfl, by rw [HL.out]; exact own.more (by omega), L3.below⟩

theorem wt_is {n : Int} {es : List (Int × Int)} {a b at_ : Int} (h : pivOkB n es a b at_ = true) : ((sumN (fun k => pivC es a.toNat b.toNat at_.toNat k) es.length : Nat) : Int) = wtI n es a b at_ := (if_pos h).symm

end Go.Proofs.Ytfflfinhhdhnkab
