/- BothOf of the program and of the reference; and what they are made of. -/
import Derived.Test.YtfflfinhhdhnkaaBothL
import Derived.Test.YtfflfinhhdhnkaaRowEq
import Derived.Test.YtfflfinhhdhnkaaImpl2
import Derived.Test.YtfflfinhhdhnkaaSpec2
namespace Go.Proofs.Ytfflfinhhdhnkaa
open Go.RowKit
set_option maxRecDepth 100000

theorem getD_some {xs : List Int} {k : Nat} (h : k < xs.length) : xs[k]? = some (xs.getD k 0) := by simp [List.getD, h]

theorem addShifted_any (g base n c i m d : Nat) (B : Option Addr) (t : Int) (bs : List Int) (p : Nat → Int) (w : World) (own : OwnI w base (.slice (some ⟨g, 0, none⟩) n c) (rowL p n))
    (hbs : IntsIn w g B bs) (hm : bs.length = m) (hn : i + m ≤ n) (hn2 : n ≤ 100) :
    Calls Try.prog 74 #[.slice (some ⟨g, 0, none⟩) n c, .int .i64 i, .slice B m d, .int .i64 t] w fun e w' => e = .returned (.tuple #[]) ∧
      OwnI w' base (.slice (some ⟨g, 0, none⟩) n c) (rowL (addR t bs i p m) n) ∧ Below g w w' := by
  have HM := Lib.hid hm
  clear hm
  go_enter Try.func74, Try.ntmps74
  go_wp2_with fail
  go_loopw [8, 9, 12] (fun _ _ k wr => ∃ j : Nat, j ≤ m ∧ k = .int .i64 (j : Nat) ∧ OwnI wr base (.slice (some ⟨g, 0, none⟩) n c) (rowL (addR t bs i p j) n) ∧ Below g w wr) (fun _ _ k _ => m - (intOf k).toNat)
  case atStart => exact ⟨0, by omega, rfl, own, Below.refl _ _⟩
  case round =>
    clear own
    obtain ⟨j, hj, rfl, own, hb⟩ := hrel
    by_cases hlt : j < m
    · have j1 : j < bs.length := by have := HM.out; omega
      obtain ⟨b, off, rfl, hbb, g1⟩ := (hbs.below hb (Nat.le_refl _)) j _ (getD_some j1)
      obtain ⟨c1, f1⟩ := own.slot (k := i + j) (by omega)
      rw [rowL_getD _ (by omega)] at c1
      have hst := own.store (i + j) (addR t bs i p (j + 1) (i + j))
      rw [rowL_set] at hst
      have e1 : updI (addR t bs i p j) (i + j) (addR t bs i p (j + 1) (i + j)) = addR t bs i p (j + 1) := by
        simp only [addR, updI, if_true]
      have e2 : addR t bs i p (j + 1) (i + j) = IntKind.i64.wrap (addR t bs i p j (i + j) + IntKind.i64.wrap (t * bs.getD j 0)) := by simp only [addR, updI, if_true]
      rw [e1] at hst
      rw [e2] at hst
      have HS := Lib.hid hst
      clear own hst e1 e2 hbs
      generalize bs.getD j 0 = y at *
      generalize addR t bs i p j (i + j) = q at *
      obtain ⟨X, hX⟩ : ∃ X, IntKind.i64.wrap (t * y) = X := ⟨_, rfl⟩
      obtain ⟨Y, hY⟩ : ∃ Y, IntKind.i64.wrap (q + X) = Y := ⟨_, rfl⟩
      rw [hX, hY] at HS
      have wi : IntKind.i64.wrap ((i : Int) + (j : Int)) = ((i + j : Nat) : Int) := IntWalk.i64_in _ (by omega)
      go_wp2_with fail
      go_roundw
      case rel => exact ⟨j + 1, by omega, by go_num, HS.out, hb.setCell (Nat.le_refl _) _⟩
      case measure => simp [intOf]; omega
    · obtain rfl : j = m := by omega
      go_wp2_with fail
      go_end0
      exact ⟨rfl, own, hb⟩

theorem together_any (A B : Option Addr) (c d : Nat) (xs ys : List Int) (w : World) (hxs : IntsIn w w.heap.size A xs) (hys : IntsIn w w.heap.size B ys)
    (h1 : 1 ≤ xs.length ∧ xs.length ≤ 30) (h2 : 1 ≤ ys.length ∧ ys.length ≤ 30) :
    Calls Try.prog 46 #[.slice A xs.length c, .slice B ys.length d] w (GotInts w (togL xs ys)) := by
  obtain ⟨i0, hi0, hz0, hz1, hz2⟩ := info_parts int_info
  obtain ⟨n, hn⟩ : ∃ n, xs.length = n := ⟨_, rfl⟩
  obtain ⟨m, hm⟩ : ∃ m, ys.length = m := ⟨_, rfl⟩
  obtain ⟨s, hs⟩ : ∃ s, n + m - 1 = s := ⟨_, rfl⟩
  rw [hn] at h1 ⊢
  rw [hm] at h2 ⊢
  have HN := Lib.hid hn
  have HM := Lib.hid hm
  clear hn hm
  have ws : IntKind.i64.wrap ((n : Int) + (m : Int)) = (n : Int) + (m : Int) := IntWalk.i64_in _ (by omega)
  have wt : IntKind.i64.wrap ((n : Int) + (m : Int) - 1) = (s : Int) := by rw [IntWalk.i64_in _ (by omega)]; omega
  go_enter Try.func46, Try.ntmps46
  go_wp2_with (at_make; refine wpList_make_full _ rfl _ _ 28 rfl w.heap.size 3 i0 _ 1 Try.underlying28 hi0 hz0 hz1 .i64 .i64 s s s rfl rfl rfl rfl (by rw [hz2]; omega) (by simp [maxLen]; omega) (Nat.le_refl _) ?_; intro w1 hown1 hg1)
  have hst : OwnI w1 w.heap.size (.slice (some ⟨w.heap.size, 0, none⟩) s s) (rowL (bothR xs ys 0) s) := by
    have e : rowL (bothR xs ys 0) s = List.replicate s 0 := (rowL_zero s).symm
    rw [e]
    unfold OwnI; rw [List.length_replicate, ← madeCells_ints]; exact hown1
  have hb1 : Below w.heap.size w w1 := (Below.refl _ _).grown hg1 (Nat.le_refl _) (by simp)
  clear hown1 hg1 hz1 hz2 hi0 hz0
  go_wp2_with fail
  go_loopw [6, 7, 17] (fun _ _ k wr => ∃ j : Nat, j ≤ n ∧ k = .int .i64 (j : Nat) ∧ OwnI wr w.heap.size (.slice (some ⟨w.heap.size, 0, none⟩) s s) (rowL (bothR xs ys j) s) ∧ Below w.heap.size w wr) (fun _ _ k _ => n - (intOf k).toNat)
  case atStart => exact ⟨0, by omega, rfl, hst, hb1⟩
  case round =>
    clear hst hb1
    obtain ⟨j, hj, rfl, own, hb⟩ := hrel
    by_cases hlt : j < n
    · have j1 : j < xs.length := by have := HN.out; omega
      obtain ⟨b, off, rfl, hbb, g1⟩ := (hxs.below hb (Nat.le_refl _)) j _ (getD_some j1)
      have hys' := hys.below hb (Nat.le_refl _)
      have HR : Hid (bothR xs ys (j + 1) = addR (xs.getD j 0) ys j (bothR xs ys j) m) := by rw [Hid, ← HM.out]; rfl
      generalize xs.getD j 0 = t at *
      go_wp2_with fail
      refine (addShifted_any _ _ _ _ _ _ _ _ _ _ _ _ own hys' HM.out (by omega) (by omega)).mono ?_
      rintro e1 w2 ⟨rfl, own2, hb2⟩
      rw [← HR.out] at own2
      go_wp2_with fail
      go_roundw
      case rel => exact ⟨j + 1, by omega, by go_num, own2, hb.trans hb2⟩
      case measure => simp [intOf]; omega
    · obtain rfl : j = n := by omega
      have e : rowL (bothR xs ys j) s = togL xs ys := by unfold togL; rw [HN.out, HM.out, hs]
      have HL : Hid ((togL xs ys).length = s) := by rw [Hid, togL_length, HN.out, HM.out, hs]
      rw [e] at own
      go_wp2_with fail
      go_returns
      exact ⟨some ⟨w.heap.size, 0, none⟩, s, by rw [HL.out]; rfl, by rw [HL.out]; exact own, hb⟩

def lenOkB (n : Nat) : Bool := decide (1 ≤ n) && decide (n ≤ 30)
theorem rowOk_any (A : Option Addr) (c n : Nat) (w : World) (hn : n ≤ 9223372036854775807) :
    Calls Try.prog 55 #[.slice A n c] w fun e w' => e = .returned (.bool (lenOkB n)) ∧ w = w' := by
  by_cases h1 : 1 ≤ n
  · have d1 : decide ((1 : Int) ≤ (n : Int)) = true := by simp; omega
    go_enter Try.func55, Try.ntmps55
    go_wp2_with fail
    go_returns
    exact ⟨retB (by simp [lenOkB, h1]; omega), rfl⟩
  · have d1 : decide ((1 : Int) ≤ (n : Int)) = false := by simp; omega
    go_enter Try.func55, Try.ntmps55
    go_wp2_with fail
    go_returns
    exact ⟨retB (by simp [lenOkB, h1]), rfl⟩
theorem bothOk_len (xs ys : List Int) : bothOkB xs ys = (lenOkB xs.length && lenOkB ys.length) := rfl

theorem bothOf_any (A B : Option Addr) (c d : Nat) (xs ys : List Int) (w : World) (hxs : IntsIn w w.heap.size A xs) (hys : IntsIn w w.heap.size B ys)
    (h1 : xs.length ≤ 9223372036854775807) (h2 : ys.length ≤ 9223372036854775807) :
    Calls Try.prog 22 #[.slice A xs.length c, .slice B ys.length d] w (GotInts w (bothL xs ys)) := by
  cases hx : lenOkB xs.length with
  | false =>
    have HB : Hid (bothL xs ys = []) := by simp [Hid, bothL, bothOk_len, hx]
    have HX := Lib.hid hx
    clear hx
    go_enter Try.func22, Try.ntmps22
    go_wp2_with fail
    refine (rowOk_any _ _ _ _ h1).mono ?_
    rintro e1 w1 ⟨rfl, rfl⟩
    rw [HX.out]
    go_wp2_with fail
    go_returns
    exact ⟨none, 0, by rw [HB.out]; rfl, by rw [HB.out]; exact OwnI.nil _ _, Below.refl _ _⟩
  | true =>
    have HX := Lib.hid hx
    cases hy : lenOkB ys.length with
    | false =>
      have HB : Hid (bothL xs ys = []) := by simp [Hid, bothL, bothOk_len, hx, hy]
      have HY := Lib.hid hy
      clear hx hy
      go_enter Try.func22, Try.ntmps22
      go_wp2_with fail
      refine (rowOk_any _ _ _ _ h1).mono ?_
      rintro e1 w1 ⟨rfl, rfl⟩
      rw [HX.out]
      go_wp2_with fail
      refine (rowOk_any _ _ _ _ h2).mono ?_
      rintro e2 w2 ⟨rfl, rfl⟩
      rw [HY.out]
      go_wp2_with fail
      go_returns
      exact ⟨none, 0, by rw [HB.out]; rfl, by rw [HB.out]; exact OwnI.nil _ _, Below.refl _ _⟩
    | true =>
      have HB : Hid (bothL xs ys = togL xs ys) := by simp [Hid, bothL, bothOk_len, hx, hy]
      have HY := Lib.hid hy
      simp only [lenOkB, Bool.and_eq_true, decide_eq_true_eq] at hx hy
      go_enter Try.func22, Try.ntmps22
      go_wp2_with fail
      refine (rowOk_any _ _ _ _ h1).mono ?_
      rintro e1 w1 ⟨rfl, rfl⟩
      rw [HX.out]
      go_wp2_with fail
      refine (rowOk_any _ _ _ _ h2).mono ?_
      rintro e2 w2 ⟨rfl, rfl⟩
      rw [HY.out]
      go_wp2_with fail
      refine (together_any _ _ _ _ _ _ _ hxs hys hx hy).mono ?_
      rintro e3 w3 ⟨A3, c3, rfl, own, hb⟩
      go_wp2_with fail
      go_returns
      exact ⟨A3, c3, by rw [HB.out]; rfl, by rw [HB.out]; exact own, hb⟩
end Go.Proofs.Ytfflfinhhdhnkaa

/- BothOf of the reference; ChoicesOf of the program and of the reference. -/
namespace Go.Proofs.Ytfflfinhhdhnkaa
open Go.RowKit
set_option maxRecDepth 100000

theorem OwnI.empty (w : World) {base : Nat} (hb : base ≤ w.heap.size) : OwnI (w.alloc (.cells #[] 3)) base (.slice (some ⟨w.heap.size, 0, none⟩) 0 0) [] :=
  OwnI.box w [] hb (by simp)

end Go.Proofs.Ytfflfinhhdhnkaa

/- JoiningCounts, WholeCounts and ForestCounts of the reference. -/
namespace Go.Proofs.Ytfflfinhhdhnkaa
open Go.RowKit
set_option maxRecDepth 100000

theorem pow_named {l : Nat} (h : l ≤ 9) : ∃ P : Nat, 2 ^ l = P ∧ 1 ≤ P ∧ P ≤ 512 ∧ wrap64 (2 ^ l) = (P : Int) ∧ IntKind.i64.wrap (2 ^ l) = (P : Int) := by
  have h2 : 2 ^ l ≤ 2 ^ 9 := Nat.pow_le_pow_right (by omega) h
  have h1 : 1 ≤ 2 ^ l := Nat.one_le_two_pow
  have e : (2 : Int) ^ l = ((2 ^ l : Nat) : Int) := by rw [Int.natCast_pow]; rfl
  refine ⟨2 ^ l, rfl, h1, h2, ?_, ?_⟩
  · rw [e]; generalize 2 ^ l = P at *; unfold wrap64; omega
  · rw [e, IntWalk.i64_left]; generalize 2 ^ l = P at *; unfold wrap64; omega

theorem pieces_one {x : Nat} (h : decide (x = 1) = true) : (x : Int) = 1 := by simp at h; omega
theorem pieces_more1 {x : Nat} (h : decide (x = 1) = false) : ((x : Int) == 1) = false := by simp at h; simp; omega

set_option maxHeartbeats 4000000 in
theorem specWholeCounts_any (n : Int) (A : Option Addr) (cap : Nat) (es : List (Int × Int)) (w : World) (hes : EdgesIn w w.heap.size A es) (hl : es.length ≤ 1048576) :
    Calls Try.prog 18 #[.agg #[.int .i64 n, .slice A es.length cap]] w (GotInts w (wholeL n es)) := by
  have L0 := ArgNet.start (cap := cap) (n := n) 25 hes
  by_cases hok : netOkB n es = true
  · have HNET := Lib.hid (hok)
    have h9 := (netOkB_iff.1 HNET.out).2.1
    have HOK := Lib.hid hok
    have HC := Lib.hid (whole_cnt HOK.out)
    clear hok
    obtain ⟨q, hq⟩ : ∃ q : Nat → Bool, (fun t : Nat => decide (piecesB n es t = 1)) = q := ⟨_, rfl⟩
    have HQ : Hid (∀ t : Nat, q t = decide (piecesB n es t = 1)) := fun t => by rw [← hq]
    rw [hq] at HC
    clear hq
    obtain ⟨P, hP, p1, p2, hp3, hp4⟩ := pow_named h9
    rw [hP] at HC
    have HP := Lib.hid hP
    clear hP
    obtain ⟨L, hL⟩ : ∃ L, wholeL n es = L := ⟨_, rfl⟩
    rw [hL] at HC ⊢
    clear hL
    obtain ⟨i0, hi0, hz0, hz1, hz2⟩ := info_parts int_info
    have hes0 : EdgesIn _ _ A es := L0.edges
    have hwm : IntKind.i64.wrap ((es.length : Int) + 1) = ((es.length + 1 : Nat) : Int) := by rw [IntWalk.i64_in _ (by omega)]; omega
    go_enter Try.func18, Try.ntmps18
    go_wp2_with fail
    refine (specNetOk_any _ _ _ _ _ hes0 hl).mono ?_
    rintro e1 w1 ⟨rfl, hb1⟩
    rw [HNET.out]
    have L1 := L0.step hb1 (by simp)
    clear hb1 hes0 L0
    obtain ⟨_, _, c0, c1, s1⟩ := id L1
    go_wp2_with (at_make; refine wpList_make_full _ rfl _ _ 28 rfl (w.heap.size + 1) 3 i0 _ 1 Try.underlying28 hi0 hz0 hz1 .i64 .i64 (es.length + 1) (es.length + 1) (es.length + 1) rfl rfl rfl rfl (by rw [hz2]; omega) (by simp [maxLen]; omega) (by omega) ?_; intro w2 hown2 hg2)
    have hst : OwnI w2 (w.heap.size + 1) (.slice (some ⟨w1.heap.size, 0, none⟩) (es.length + 1) (es.length + 1)) (cntR q 0 (es.length + 1)) := by
      rw [cntR_zero]
      unfold OwnI; rw [List.length_replicate, ← madeCells_ints]; exact hown2
    have hb2 : Below (w.heap.size + 1) w1 w2 := (Below.refl _ _).grown hg2 (by omega) (by simp)
    have L2 := L1.step hb2 (by omega)
    clear hown2 hg2 hz1 hz2 hi0 hz0 hb2 L1 c0 c1
    generalize hg : w1.heap.size = g at *
    obtain ⟨_, _, c0, c1, s2⟩ := id L2
    go_wp2_with fail
    go_loopw [4] (fun t wr => ∃ s : Nat, s ≤ P ∧ t = .int .i64 (s : Nat) ∧ OwnI wr (w.heap.size + 1) (.slice (some ⟨g, 0, none⟩) (es.length + 1) (es.length + 1)) (cntR q s (es.length + 1)) ∧ ArgNet w wr n A cap es) (fun t _ => P - (intOf t).toNat)
    case atStart => exact ⟨0, by omega, rfl, hst, L2⟩
    case round =>
      clear hst L2
      obtain ⟨s, hs, rfl, own, L3⟩ := hrel
      obtain ⟨_, _, c0, c1, s3⟩ := id L3
      by_cases hlt : s < P
      · have hso := Lib.hid (state_of HNET.out (show s < 2 ^ es.length by rw [HP.out]; exact hlt))
        have hpl : Hid (pop s ≤ es.length) := pop_low (by rw [HP.out]; exact hlt) h9
        have hedges := L3.edges
        cases hv : q s with
        | true =>
          obtain ⟨pb, hone, hcall⟩ : ∃ pb : Int, pb = 1 ∧ ∀ u, EdgesIn u u.heap.size A es → Calls Try.prog 50 #[.agg #[.int .i64 n, .slice A es.length cap], .int .i64 s] u fun e w' => e = .returned (.int .i64 pb) ∧ Below u.heap.size u w' :=
            ⟨(piecesB n es s : Nat), pieces_one ((HQ.out s).symm.trans hv), fun u hu => l2Pieces_any _ _ _ _ _ _ hu hso.out⟩
          subst hone
          go_wp2_with fail
          refine (hcall _ hedges).mono ?_
          rintro e4 w4 ⟨rfl, hb4⟩
          clear hcall
          have L4 := L3.step hb4 L3.lt
          have own4 := own.below hb4 own.lt
          clear own L3 hb4 c0 c1 s3 hedges
          have hhit := Lib.hid (cntR_hit (m := es.length + 1) hv)
          have hpl := hpl.out
          have hcz := cntS_le q s (pop s)
          obtain ⟨x1, f1⟩ := own4.slot (k := pop s) (by omega)
          rw [cntR_getD q s (show pop s < es.length + 1 by omega)] at x1
          have hst := own4.store (pop s) ((cntS q s (pop s) : Nat) + 1)
          rw [hhit.out] at hst
          have HS := Lib.hid hst
          have hgg := own4.ge g rfl
          clear own4 hst hhit hv
          have wz : IntKind.i64.wrap (((cntS q s (pop s) : Nat) : Int) + 1) = ((cntS q s (pop s) : Nat) : Int) + 1 := IntWalk.i64_in _ (by omega)
          have hM : ∀ u, Calls Try.prog 45 #[.int .i64 s] u fun e w' => e = .returned (.int .i64 (pop s)) ∧ u = w' := fun u => l1Many_any s u (by omega)
          generalize cntS q s (pop s) = z at *
          generalize pop s = x at *
          go_wp2_with (go_at_call 45; refine (hM _).mono ?_; rintro _ _ ⟨rfl, rfl⟩)
          go_roundw
          case rel => exact ⟨s + 1, by omega, by go_num, HS.out, L4.step ((Below.refl (w.heap.size + 1) _).setCell (by simpa using hgg) _) (by omega)⟩
          case measure => simp [intOf]; omega
        | false =>
          obtain ⟨pb, hone, hcall⟩ : ∃ pb : Int, (pb == 1) = false ∧ ∀ u, EdgesIn u u.heap.size A es → Calls Try.prog 50 #[.agg #[.int .i64 n, .slice A es.length cap], .int .i64 s] u fun e w' => e = .returned (.int .i64 pb) ∧ Below u.heap.size u w' :=
            ⟨(piecesB n es s : Nat), pieces_more1 ((HQ.out s).symm.trans hv), fun u hu => l2Pieces_any _ _ _ _ _ _ hu hso.out⟩
          go_wp2_with fail
          refine (hcall _ hedges).mono ?_
          rintro e4 w4 ⟨rfl, hb4⟩
          clear hcall
          have L4 := L3.step hb4 L3.lt
          have own4 := own.below hb4 own.lt
          clear own L3 hb4 c0 c1 s3 hedges
          rw [← cntR_miss (m := es.length + 1) hv] at own4
          clear hv
          go_wp2_with fail
          go_roundw
          case rel => exact ⟨s + 1, by omega, by go_num, own4, L4⟩
          case measure => simp [intOf]; omega
      · obtain rfl : s = P := by omega
        rw [HC.out] at own
        have HL : Hid (L.length = es.length + 1) := by rw [Hid, ← HC.out, cntR_length]
        go_wp2_with fail
        go_returns
        exact ⟨some ⟨g, 0, none⟩, es.length + 1, by rw [HL.out]; rfl, by rw [HL.out]; exact own.more (by omega), L3.below⟩
  · have HL : Hid (wholeL n es = []) := if_neg hok
    have HN : Hid (netOkB n es = false) := by simpa [Hid] using hok
    clear hok
    go_enter Try.func18, Try.ntmps18
    go_wp2_with fail
    refine (specNetOk_any _ _ _ _ _ L0.edges hl).mono ?_
    rintro e1 w1 ⟨rfl, hb1⟩
    rw [HN.out]
    have L1 := L0.step hb1 (by simp)
    clear hb1 L0
    obtain ⟨_, _, c0, c1, s1⟩ := id L1
    go_wp2_with fail
    go_returns
    exact ⟨some ⟨w1.heap.size, 0, none⟩, 0, by rw [HL.out]; rfl, by rw [HL.out]; exact OwnI.empty w1 (by omega), L1.below.alloc (by omega) _⟩

set_option maxHeartbeats 4000000 in
theorem specForestCounts_any (n : Int) (A : Option Addr) (cap : Nat) (es : List (Int × Int)) (w : World) (hes : EdgesIn w w.heap.size A es) (hl : es.length ≤ 1048576) :
    Calls Try.prog 25 #[.agg #[.int .i64 n, .slice A es.length cap]] w (GotInts w (forestL n es)) := by
  have L0 := ArgNet.start (cap := cap) (n := n) 25 hes
  by_cases hok : netOkB n es = true
  · have HNET := Lib.hid (hok)
    have h9 := (netOkB_iff.1 HNET.out).2.1
    have HOK := Lib.hid hok
    have HC := Lib.hid (forest_cnt HOK.out)
    clear hok
    obtain ⟨q, hq⟩ : ∃ q : Nat → Bool, (fun t : Nat => freeB n es t) = q := ⟨_, rfl⟩
    have HQ : Hid (∀ t : Nat, q t = freeB n es t) := fun t => by rw [← hq]
    rw [hq] at HC
    clear hq
    obtain ⟨P, hP, p1, p2, hp3, hp4⟩ := pow_named h9
    rw [hP] at HC
    have HP := Lib.hid hP
    clear hP
    obtain ⟨L, hL⟩ : ∃ L, forestL n es = L := ⟨_, rfl⟩
    rw [hL] at HC ⊢
    clear hL
    obtain ⟨i0, hi0, hz0, hz1, hz2⟩ := info_parts int_info
    have hes0 : EdgesIn _ _ A es := L0.edges
    have hwm : IntKind.i64.wrap ((es.length : Int) + 1) = ((es.length + 1 : Nat) : Int) := by rw [IntWalk.i64_in _ (by omega)]; omega
    go_enter Try.func25, Try.ntmps25
    go_wp2_with fail
    refine (specNetOk_any _ _ _ _ _ hes0 hl).mono ?_
    rintro e1 w1 ⟨rfl, hb1⟩
    rw [HNET.out]
    have L1 := L0.step hb1 (by simp)
    clear hb1 hes0 L0
    obtain ⟨_, _, c0, c1, s1⟩ := id L1
    go_wp2_with (at_make; refine wpList_make_full _ rfl _ _ 28 rfl (w.heap.size + 1) 3 i0 _ 1 Try.underlying28 hi0 hz0 hz1 .i64 .i64 (es.length + 1) (es.length + 1) (es.length + 1) rfl rfl rfl rfl (by rw [hz2]; omega) (by simp [maxLen]; omega) (by omega) ?_; intro w2 hown2 hg2)
    have hst : OwnI w2 (w.heap.size + 1) (.slice (some ⟨w1.heap.size, 0, none⟩) (es.length + 1) (es.length + 1)) (cntR q 0 (es.length + 1)) := by
      rw [cntR_zero]
      unfold OwnI; rw [List.length_replicate, ← madeCells_ints]; exact hown2
    have hb2 : Below (w.heap.size + 1) w1 w2 := (Below.refl _ _).grown hg2 (by omega) (by simp)
    have L2 := L1.step hb2 (by omega)
    clear hown2 hg2 hz1 hz2 hi0 hz0 hb2 L1 c0 c1
    generalize hg : w1.heap.size = g at *
    obtain ⟨_, _, c0, c1, s2⟩ := id L2
    go_wp2_with fail
    go_loopw [4] (fun t wr => ∃ s : Nat, s ≤ P ∧ t = .int .i64 (s : Nat) ∧ OwnI wr (w.heap.size + 1) (.slice (some ⟨g, 0, none⟩) (es.length + 1) (es.length + 1)) (cntR q s (es.length + 1)) ∧ ArgNet w wr n A cap es) (fun t _ => P - (intOf t).toNat)
    case atStart => exact ⟨0, by omega, rfl, hst, L2⟩
    case round =>
      clear hst L2
      obtain ⟨s, hs, rfl, own, L3⟩ := hrel
      obtain ⟨_, _, c0, c1, s3⟩ := id L3
      by_cases hlt : s < P
      · have hso := Lib.hid (state_of HNET.out (show s < 2 ^ es.length by rw [HP.out]; exact hlt))
        have hpl : Hid (pop s ≤ es.length) := pop_low (by rw [HP.out]; exact hlt) h9
        have hedges := L3.edges
        cases hv : q s with
        | true =>
          have HV : Hid (freeB n es s = true) := (HQ.out s).symm.trans hv
          go_wp2_with fail
          refine (specRingFreeOk_any _ _ _ _ _ _ hedges hl).mono ?_
          rintro e4 w4 ⟨rfl, hb4⟩
          rw [HV.out]
          have L4 := L3.step hb4 L3.lt
          have own4 := own.below hb4 own.lt
          clear own L3 hb4 c0 c1 s3 hedges
          have hhit := Lib.hid (cntR_hit (m := es.length + 1) hv)
          have hpl := hpl.out
          have hcz := cntS_le q s (pop s)
          obtain ⟨x1, f1⟩ := own4.slot (k := pop s) (by omega)
          rw [cntR_getD q s (show pop s < es.length + 1 by omega)] at x1
          have hst := own4.store (pop s) ((cntS q s (pop s) : Nat) + 1)
          rw [hhit.out] at hst
          have HS := Lib.hid hst
          have hgg := own4.ge g rfl
          clear own4 hst hhit hv
          have wz : IntKind.i64.wrap (((cntS q s (pop s) : Nat) : Int) + 1) = ((cntS q s (pop s) : Nat) : Int) + 1 := IntWalk.i64_in _ (by omega)
          have hM : ∀ u, Calls Try.prog 45 #[.int .i64 s] u fun e w' => e = .returned (.int .i64 (pop s)) ∧ u = w' := fun u => l1Many_any s u (by omega)
          generalize cntS q s (pop s) = z at *
          generalize pop s = x at *
          go_wp2_with (go_at_call 45; refine (hM _).mono ?_; rintro _ _ ⟨rfl, rfl⟩)
          go_roundw
          case rel => exact ⟨s + 1, by omega, by go_num, HS.out, L4.step ((Below.refl (w.heap.size + 1) _).setCell (by simpa using hgg) _) (by omega)⟩
          case measure => simp [intOf]; omega
        | false =>
          have HV : Hid (freeB n es s = false) := (HQ.out s).symm.trans hv
          go_wp2_with fail
          refine (specRingFreeOk_any _ _ _ _ _ _ hedges hl).mono ?_
          rintro e4 w4 ⟨rfl, hb4⟩
          rw [HV.out]
          have L4 := L3.step hb4 L3.lt
          have own4 := own.below hb4 own.lt
          clear own L3 hb4 c0 c1 s3 hedges
          rw [← cntR_miss (m := es.length + 1) hv] at own4
          clear hv
          go_wp2_with fail
          go_roundw
          case rel => exact ⟨s + 1, by omega, by go_num, own4, L4⟩
          case measure => simp [intOf]; omega
      · obtain rfl : s = P := by omega
        rw [HC.out] at own
        have HL : Hid (L.length = es.length + 1) := by rw [Hid, ← HC.out, cntR_length]
        go_wp2_with fail
        go_returns
        exact ⟨some ⟨g, 0, none⟩, es.length + 1, by rw [HL.out]; rfl, by rw [HL.out]; exact own.more (by omega), L3.below⟩
  · have HL : Hid (forestL n es = []) := if_neg hok
    have HN : Hid (netOkB n es = false) := by simpa [Hid] using hok
    clear hok
    go_enter Try.func25, Try.ntmps25
    go_wp2_with fail
    refine (specNetOk_any _ _ _ _ _ L0.edges hl).mono ?_
    rintro e1 w1 ⟨rfl, hb1⟩
    rw [HN.out]
    have L1 := L0.step hb1 (by simp)
    clear hb1 L0
    obtain ⟨_, _, c0, c1, s1⟩ := id L1
    go_wp2_with fail
    go_returns
    exact ⟨some ⟨w1.heap.size, 0, none⟩, 0, by rw [HL.out]; rfl, by rw [HL.out]; exact OwnI.empty w1 (by omega), L1.below.alloc (by omega) _⟩

set_option maxHeartbeats 4000000 in
theorem specJoiningCounts_any (n a b : Int) (A : Option Addr) (cap : Nat) (es : List (Int × Int)) (w : World) (hes : EdgesIn w w.heap.size A es) (hl : es.length ≤ 1048576) :
    Calls Try.prog 13 #[.agg #[.int .i64 n, .slice A es.length cap], .int .i64 a, .int .i64 b] w (GotInts w (joiningL n es a b)) := by
  have L0 := ArgNet.start (cap := cap) (n := n) 25 hes
  by_cases hok : joinOkB n es a b = true
  · have HNET := Lib.hid ((joinOkB_iff.1 hok).1)
    obtain ⟨-, hA, hB, hne⟩ := joinOkB_iff.1 hok
    have D1 : Hid ((decide (1 ≤ a) && decide (a ≤ n)) = true) := by simp [Hid, hA]
    have D2 : Hid ((decide (1 ≤ b) && decide (b ≤ n)) = true) := by simp [Hid, hB]
    have h9 := (netOkB_iff.1 HNET.out).2.1
    have HOK := Lib.hid hok
    have HC := Lib.hid (joining_cnt HOK.out)
    clear hok
    obtain ⟨q, hq⟩ : ∃ q : Nat → Bool, (fun t : Nat => joinedB n es t a b) = q := ⟨_, rfl⟩
    have HQ : Hid (∀ t : Nat, q t = joinedB n es t a b) := fun t => by rw [← hq]
    rw [hq] at HC
    clear hq
    obtain ⟨P, hP, p1, p2, hp3, hp4⟩ := pow_named h9
    rw [hP] at HC
    have HP := Lib.hid hP
    clear hP
    obtain ⟨L, hL⟩ : ∃ L, joiningL n es a b = L := ⟨_, rfl⟩
    rw [hL] at HC ⊢
    clear hL
    obtain ⟨i0, hi0, hz0, hz1, hz2⟩ := info_parts int_info
    have hes0 : EdgesIn _ _ A es := L0.edges
    have hwm : IntKind.i64.wrap ((es.length : Int) + 1) = ((es.length + 1 : Nat) : Int) := by rw [IntWalk.i64_in _ (by omega)]; omega
    go_enter Try.func13, Try.ntmps13
    go_wp2_with fail
    refine (specNetOk_any _ _ _ _ _ hes0 hl).mono ?_
    rintro e1 w1 ⟨rfl, hb1⟩
    rw [HNET.out]
    have L1 := L0.step hb1 (by simp)
    clear hb1 hes0 L0
    obtain ⟨_, _, c0, c1, s1⟩ := id L1
    go_wp2_with fail
    refine (l1In_any _ _ _ _).mono ?_
    rintro e11 w11 ⟨rfl, rfl⟩
    rw [D1.out]
    go_wp2_with fail
    refine (l1In_any _ _ _ _).mono ?_
    rintro e12 w12 ⟨rfl, rfl⟩
    rw [D2.out]
    go_wp2_with (at_make; refine wpList_make_full _ rfl _ _ 28 rfl (w.heap.size + 1) 3 i0 _ 1 Try.underlying28 hi0 hz0 hz1 .i64 .i64 (es.length + 1) (es.length + 1) (es.length + 1) rfl rfl rfl rfl (by rw [hz2]; omega) (by simp [maxLen]; omega) (by omega) ?_; intro w2 hown2 hg2)
    have hst : OwnI w2 (w.heap.size + 1) (.slice (some ⟨w1.heap.size, 0, none⟩) (es.length + 1) (es.length + 1)) (cntR q 0 (es.length + 1)) := by
      rw [cntR_zero]
      unfold OwnI; rw [List.length_replicate, ← madeCells_ints]; exact hown2
    have hb2 : Below (w.heap.size + 1) w1 w2 := (Below.refl _ _).grown hg2 (by omega) (by simp)
    have L2 := L1.step hb2 (by omega)
    clear hown2 hg2 hz1 hz2 hi0 hz0 hb2 L1 c0 c1
    generalize hg : w1.heap.size = g at *
    obtain ⟨_, _, c0, c1, s2⟩ := id L2
    go_wp2_with fail
    go_loopw [8] (fun t wr => ∃ s : Nat, s ≤ P ∧ t = .int .i64 (s : Nat) ∧ OwnI wr (w.heap.size + 1) (.slice (some ⟨g, 0, none⟩) (es.length + 1) (es.length + 1)) (cntR q s (es.length + 1)) ∧ ArgNet w wr n A cap es) (fun t _ => P - (intOf t).toNat)
    case atStart => exact ⟨0, by omega, rfl, hst, L2⟩
    case round =>
      clear hst L2
      obtain ⟨s, hs, rfl, own, L3⟩ := hrel
      obtain ⟨_, _, c0, c1, s3⟩ := id L3
      by_cases hlt : s < P
      · have hso := Lib.hid (state_of HNET.out (show s < 2 ^ es.length by rw [HP.out]; exact hlt))
        have hpl : Hid (pop s ≤ es.length) := pop_low (by rw [HP.out]; exact hlt) h9
        have hedges := L3.edges
        cases hv : q s with
        | true =>
          have HV : Hid (joinedB n es s a b = true) := (HQ.out s).symm.trans hv
          go_wp2_with fail
          refine (specJoinedOk_any _ _ _ _ _ _ _ _ hedges hl).mono ?_
          rintro e4 w4 ⟨rfl, hb4⟩
          rw [HV.out]
          have L4 := L3.step hb4 L3.lt
          have own4 := own.below hb4 own.lt
          clear own L3 hb4 c0 c1 s3 hedges
          have hhit := Lib.hid (cntR_hit (m := es.length + 1) hv)
          have hpl := hpl.out
          have hcz := cntS_le q s (pop s)
          obtain ⟨x1, f1⟩ := own4.slot (k := pop s) (by omega)
          rw [cntR_getD q s (show pop s < es.length + 1 by omega)] at x1
          have hst := own4.store (pop s) ((cntS q s (pop s) : Nat) + 1)
          rw [hhit.out] at hst
          have HS := Lib.hid hst
          have hgg := own4.ge g rfl
          clear own4 hst hhit hv
          have wz : IntKind.i64.wrap (((cntS q s (pop s) : Nat) : Int) + 1) = ((cntS q s (pop s) : Nat) : Int) + 1 := IntWalk.i64_in _ (by omega)
          have hM : ∀ u, Calls Try.prog 45 #[.int .i64 s] u fun e w' => e = .returned (.int .i64 (pop s)) ∧ u = w' := fun u => l1Many_any s u (by omega)
          generalize cntS q s (pop s) = z at *
          generalize pop s = x at *
          go_wp2_with (go_at_call 45; refine (hM _).mono ?_; rintro _ _ ⟨rfl, rfl⟩)
          go_roundw
          case rel => exact ⟨s + 1, by omega, by go_num, HS.out, L4.step ((Below.refl (w.heap.size + 1) _).setCell (by simpa using hgg) _) (by omega)⟩
          case measure => simp [intOf]; omega
        | false =>
          have HV : Hid (joinedB n es s a b = false) := (HQ.out s).symm.trans hv
          go_wp2_with fail
          refine (specJoinedOk_any _ _ _ _ _ _ _ _ hedges hl).mono ?_
          rintro e4 w4 ⟨rfl, hb4⟩
          rw [HV.out]
          have L4 := L3.step hb4 L3.lt
          have own4 := own.below hb4 own.lt
          clear own L3 hb4 c0 c1 s3 hedges
          rw [← cntR_miss (m := es.length + 1) hv] at own4
          clear hv
          go_wp2_with fail
          go_roundw
          case rel => exact ⟨s + 1, by omega, by go_num, own4, L4⟩
          case measure => simp [intOf]; omega
      · obtain rfl : s = P := by omega
        rw [HC.out] at own
        have HL : Hid (L.length = es.length + 1) := by rw [Hid, ← HC.out, cntR_length]
        go_wp2_with fail
        go_returns
        exact ⟨some ⟨g, 0, none⟩, es.length + 1, by rw [HL.out]; rfl, by rw [HL.out]; exact own.more (by omega), L3.below⟩
  · have HL : Hid (joiningL n es a b = []) := if_neg hok
    by_cases hn : netOkB n es = true
    · have HN := Lib.hid hn
      by_cases ha : 1 ≤ a ∧ a ≤ n
      · have D1 : Hid ((decide (1 ≤ a) && decide (a ≤ n)) = true) := by simp [Hid, ha]
        by_cases hb : 1 ≤ b ∧ b ≤ n
        · have D2 : Hid ((decide (1 ≤ b) && decide (b ≤ n)) = true) := by simp [Hid, hb]
          have hab : a = b := Classical.byContradiction fun h => hok (joinOkB_iff.2 ⟨hn, ha, hb, h⟩)
          subst hab
          clear hok hn
          go_enter Try.func13, Try.ntmps13
          go_wp2_with fail
          refine (specNetOk_any _ _ _ _ _ L0.edges hl).mono ?_
          rintro e1 w1 ⟨rfl, hb1⟩
          rw [HN.out]
          have L1 := L0.step hb1 (by simp)
          clear hb1 L0
          obtain ⟨_, _, c0, c1, s1⟩ := id L1
          go_wp2_with fail
          refine (l1In_any _ _ _ _).mono ?_
          rintro _ _ ⟨rfl, rfl⟩
          rw [D1.out]
          go_wp2_with fail
          refine (l1In_any _ _ _ _).mono ?_
          rintro _ _ ⟨rfl, rfl⟩
          rw [D2.out]
          go_wp2_with fail
          go_returns
          exact ⟨some ⟨w1.heap.size, 0, none⟩, 0, by rw [HL.out]; rfl, by rw [HL.out]; exact OwnI.empty w1 (by omega), L1.below.alloc (by omega) _⟩
        · have D2 : Hid ((decide (1 ≤ b) && decide (b ≤ n)) = false) := by rw [Hid, Bool.eq_false_iff]; intro h; simp at h; exact hb h
          clear hok hn
          go_enter Try.func13, Try.ntmps13
          go_wp2_with fail
          refine (specNetOk_any _ _ _ _ _ L0.edges hl).mono ?_
          rintro e1 w1 ⟨rfl, hb1⟩
          rw [HN.out]
          have L1 := L0.step hb1 (by simp)
          clear hb1 L0
          obtain ⟨_, _, c0, c1, s1⟩ := id L1
          go_wp2_with fail
          refine (l1In_any _ _ _ _).mono ?_
          rintro _ _ ⟨rfl, rfl⟩
          rw [D1.out]
          go_wp2_with fail
          refine (l1In_any _ _ _ _).mono ?_
          rintro _ _ ⟨rfl, rfl⟩
          rw [D2.out]
          go_wp2_with fail
          go_returns
          exact ⟨some ⟨w1.heap.size, 0, none⟩, 0, by rw [HL.out]; rfl, by rw [HL.out]; exact OwnI.empty w1 (by omega), L1.below.alloc (by omega) _⟩
      · have D1 : Hid ((decide (1 ≤ a) && decide (a ≤ n)) = false) := by rw [Hid, Bool.eq_false_iff]; intro h; simp at h; exact ha h
        clear hok hn
        go_enter Try.func13, Try.ntmps13
        go_wp2_with fail
        refine (specNetOk_any _ _ _ _ _ L0.edges hl).mono ?_
        rintro e1 w1 ⟨rfl, hb1⟩
        rw [HN.out]
        have L1 := L0.step hb1 (by simp)
        clear hb1 L0
        obtain ⟨_, _, c0, c1, s1⟩ := id L1
        go_wp2_with fail
        refine (l1In_any _ _ _ _).mono ?_
        rintro _ _ ⟨rfl, rfl⟩
        rw [D1.out]
        go_wp2_with fail
        go_returns
        exact ⟨some ⟨w1.heap.size, 0, none⟩, 0, by rw [HL.out]; rfl, by rw [HL.out]; exact OwnI.empty w1 (by omega), L1.below.alloc (by omega) _⟩
    · have HN : Hid (netOkB n es = false) := by simpa [Hid] using hn
      clear hok hn
      go_enter Try.func13, Try.ntmps13
      go_wp2_with fail
      refine (specNetOk_any _ _ _ _ _ L0.edges hl).mono ?_
      rintro e1 w1 ⟨rfl, hb1⟩
      rw [HN.out]
      have L1 := L0.step hb1 (by simp)
      clear hb1 L0
      obtain ⟨_, _, c0, c1, s1⟩ := id L1
      go_wp2_with fail
      go_returns
      exact ⟨some ⟨w1.heap.size, 0, none⟩, 0, by rw [HL.out]; rfl, by rw [HL.out]; exact OwnI.empty w1 (by omega), L1.below.alloc (by omega) _⟩
end Go.Proofs.Ytfflfinhhdhnkaa
