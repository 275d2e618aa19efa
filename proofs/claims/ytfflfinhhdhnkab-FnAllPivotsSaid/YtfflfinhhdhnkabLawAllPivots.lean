/- The law FnAllPivots holds of every code: each number of all pivots is one more than its place times the next count of states that work, less the edges less its place times its own count. -/
import Derived.Test.YtfflfinhhdhnkabBytes
import Derived.Test.YtfflfinhhdhnkabDraw6
import Derived.Test.YtfflfinhhdhnkabSpec6
import Derived.Test.YtfflfinhhdhnkabImpl6
import Derived.Test.YtfflfinhhdhnkabImplCnt
import Derived.Test.YtfflfinhhdhnkabObj
namespace Go.Proofs.Ytfflfinhhdhnkab
open Go.RowKit
set_option maxRecDepth 100000

theorem allPL_get {n : Int} {es : List (Int × Int)} {a b : Int} (h : joinOkB n es a b = true) {k : Nat} (hk : k < es.length) :
    (allPL n es a b).getD k 0 = ((k : Int) + 1) * (joinC es a.toNat b.toNat (k + 1) : Nat) - ((es.length : Int) - k) * (joinC es a.toNat b.toNat k : Nat) := by
  rw [← all_law h hk]; unfold allPL; rw [if_pos h, rowL_getD _ hk]
theorem mul_small {x y : Nat} (hx : x ≤ 10) (hy : y ≤ 1048576) : x * y ≤ 10485760 := Nat.mul_le_mul hx hy

set_option maxHeartbeats 4000000 in
theorem allPivots_law (A : Option Addr) (cap l : Nat) (w : World) (hb : BytesIn w w.heap.size A l) (hc : l ≤ cap) :
    Calls Try.prog 8 #[.slice A l cap] w fun e w' => e = .returned (.bool true) ∧ Below w.heap.size w w' := by
  by_cases hbig : 1048576 < l
  · go_enter Try.func8, Try.ntmps8
    go_wp2
    go_returns
    exact ⟨rfl, Below.refl _ _⟩
  · have hl : l ≤ 1048576 := by omega
    clear hbig
    go_enter Try.func8, Try.ntmps8
    go_wp2_with fail
    refine (drawAllPivots_any _ _ _ _ hb hl hc).mono ?_
    rintro e1 w1 ⟨n, A1, c, es, a, b, rfl, own, n1, n7, hle, a1, a2, b1, b2, hb1⟩
    have L1 := ArgNet.start (cap := c) (n := n) 25 own.edges
    have HB := Lib.hid hb1
    have hle' : es.length ≤ 1048576 := by omega
    have s1 := hb1.size
    clear own hb hb1
    by_cases hn : joinOkB n es a b = true ∧ 1 ≤ es.length
    · obtain ⟨hn, hpos⟩ := hn
      have hlP : (allPL n es a b).length = es.length := by unfold allPL; rw [if_pos hn, rowL_length]
      have hlF : (joiningL n es a b).length = es.length + 1 := by unfold joiningL; rw [if_pos hn, rowL_length]
      have hF : ∀ k, k < es.length + 1 → (joiningL n es a b).getD k 0 = (joinC es a.toNat b.toNat k : Nat) := fun k hk => by unfold joiningL; rw [if_pos hn, rowL_getD _ hk]
      have hP : ∀ k, k < es.length → (allPL n es a b).getD k 0 = ((k : Int) + 1) * (joinC es a.toNat b.toNat (k + 1) : Nat) - ((es.length : Int) - k) * (joinC es a.toNat b.toNat k : Nat) := fun k hk => allPL_get hn hk
      have fc : ∀ k, joinC es a.toNat b.toNat k ≤ 1048576 := fun k => Nat.le_trans (joinC_le es _ _ k) (chs_bound hle k)
      have h9 := joinOk_nine hn
      have hI : ∀ u, EdgesIn u u.heap.size A1 es → Calls Try.prog 28 #[.agg #[.int .i64 n, .slice A1 es.length c], .int .i64 a, .int .i64 b] u (GotAs u es.length (allPL n es a b)) := fun u h => (allPivots_any n a b A1 c es u h hle').mono fun _ _ h => h.gotAs hlP hpos
      have hS : ∀ u, EdgesIn u u.heap.size A1 es → Calls Try.prog 29 #[.agg #[.int .i64 n, .slice A1 es.length c], .int .i64 a, .int .i64 b] u (GotAs u es.length (allPL n es a b)) := fun u h => (specAllPivots_any n a b A1 c es u h hle').mono fun _ _ h => h.gotAs hlP hpos
      have hJ : ∀ u, EdgesIn u u.heap.size A1 es → Calls Try.prog 26 #[.agg #[.int .i64 n, .slice A1 es.length c], .int .i64 a, .int .i64 b] u (GotRow u es.length (joiningL n es a b)) := fun u h => (joiningCounts_any n a b A1 c es u h hle').mono fun _ _ => GotInts.row hlF
      generalize joiningL n es a b = fs at *
      generalize allPL n es a b = ps at *
      obtain ⟨J, hJe⟩ : ∃ J : Nat → Nat, joinC es a.toNat b.toNat = J := ⟨_, rfl⟩
      rw [hJe] at hF hP fc
      have HLP := Lib.hid hlP
      have HI := Lib.hid hI
      have HS := Lib.hid hS
      have HJ := Lib.hid hJ
      have HFv := Lib.hid hF
      have HPv := Lib.hid hP
      have HFC := Lib.hid fc
      clear hlF hlP hI hS hJ hF hP fc hn hJe
      have c0 := L1.c0
      have c1 := L1.c1
      go_wp2_with fail
      refine (HI.out _ L1.edges).mono ?_
      rintro e2 w2 ⟨g2, c2, rfl, own2, hb2⟩
      have L2 := L1.step hb2 L1.lt
      have F2 := RowAt.start (OwnI.more own2 (show w1.heap.size ≤ _ by simp))
      clear hb2 own2 L1 c0 c1
      have c0 := L2.c0
      have c1 := L2.c1
      go_wp2_with fail
      refine (HS.out _ L2.edges).mono ?_
      rintro e3 w3 ⟨g3, c3, rfl, own3, hb3⟩
      have L3 := L2.step hb3 L2.lt
      have F3 := F2.next hb3
      clear hb3 L2 F2 c0 c1
      go_wp2_with fail
      refine (sameInts_self _ _ _ _ _ _ _ F3.ints own3.ints HLP.out (by omega)).mono ?_
      rintro e4 w4 ⟨rfl, hb4⟩
      have L4 := L3.step hb4 L3.lt
      have F4 := F3.next hb4
      clear hb4 L3 F3 own3
      have c0 := L4.c0
      have c1 := L4.c1
      have z0 : ((es.length : Int) == 0) = false := beq_eq_false_iff_ne.2 (by omega)
      have wl1 : IntKind.i64.wrap ((es.length : Int) + 1) = ((es.length + 1 : Nat) : Int) := by rw [IntWalk.i64_in _ (by omega)]; omega
      go_wp2_with fail
      refine (HJ.out _ L4.edges).mono ?_
      rintro e5 w5 ⟨g5, c5, rfl, own5, hb5⟩
      have L5 := L4.step hb5 L4.lt
      have F5 := F4.next hb5
      have W5 := RowAt.start own5
      have le5 := W5.le
      have b25 := hb5.size
      have b24 := F4.le
      have hb45 := hb5.trans (Below.refl _ _)
      clear hb5 L4 F4 own5 c0 c1 hb45
      generalize w5.heap.size = b5 at *
      generalize w4.heap.size = b4 at *
      generalize w2.heap.size = b2 at *
      go_wp2_with fail
      go_loopw [8] (fun t wr => ∃ k : Nat, k ≤ es.length ∧ t = .int .i64 (k : Nat) ∧ ArgNet w1 wr n A1 c es ∧ RowAt wr w1.heap.size b2 (.slice (some ⟨g2, 0, none⟩) es.length c2) ps ∧ RowAt wr b4 b5 (.slice (some ⟨g5, 0, none⟩) (es.length + 1) c5) fs) (fun t _ => es.length - (intOf t).toNat)
      case atStart => exact ⟨0, by omega, rfl, L5, F5, W5⟩
      case round =>
        clear L5 F5 W5
        obtain ⟨k, hk, rfl, L, F, W⟩ := hrel
        by_cases hlt : k < es.length
        · have x1 := F.cell hlt
          have x2 := W.cell (show k < es.length + 1 by omega)
          have x3 := W.cell (show k + 1 < es.length + 1 by omega)
          rw [HPv.out k hlt] at x1
          rw [HFv.out k (by omega)] at x2
          rw [HFv.out (k + 1) (by omega)] at x3
          have q1 := HFC.out k
          have q2 := HFC.out (k + 1)
          generalize J k = J0 at *
          generalize J (k + 1) = J1 at *
          have m1 : (k + 1) * J1 ≤ 10485760 := mul_small (by omega) q2
          have m2 : (es.length - k) * J0 ≤ 10485760 := mul_small (by omega) q1
          have e1 : ((k : Int) + 1) * (J1 : Int) = (((k + 1) * J1 : Nat) : Int) := by rw [Int.natCast_mul]; rfl
          have e2 : ((es.length : Int) - k) * (J0 : Int) = (((es.length - k) * J0 : Nat) : Int) := by rw [Int.natCast_mul, Int.ofNat_sub (by omega)]
          rw [e1, e2] at x1
          have wk : IntKind.i64.wrap ((k : Int) + 1) = (k : Int) + 1 := IntWalk.i64_in _ (by omega)
          have wk2 : IntKind.i64.wrap ((es.length : Int) - (k : Int)) = (es.length : Int) - (k : Int) := IntWalk.i64_in _ (by omega)
          have wm1 : IntKind.i64.wrap (((k : Int) + 1) * (J1 : Int)) = (((k + 1) * J1 : Nat) : Int) := by rw [e1]; exact IntWalk.i64_in _ (by omega)
          have wm2 : IntKind.i64.wrap (((es.length : Int) - (k : Int)) * (J0 : Int)) = (((es.length - k) * J0 : Nat) : Int) := by rw [e2]; exact IntWalk.i64_in _ (by omega)
          clear e1 e2 q1 q2
          generalize (k + 1) * J1 = X at *
          generalize (es.length - k) * J0 = Y at *
          have ws : IntKind.i64.wrap ((X : Int) - (Y : Int)) = (X : Int) - (Y : Int) := IntWalk.i64_in _ (by omega)
          have i1 : (k : Int) + 1 < (es.length : Int) + 1 := by omega
          have i2 : (k : Int) < (es.length : Int) + 1 := by omega
          have i3 : (0 : Int) ≤ (k : Int) + 1 := by omega
          clear m1 m2
          go_wp2_with fail
          go_quiet (fail)
          go_wp2_with fail
          go_roundw
          case rel => exact ⟨k + 1, by omega, by go_num, L.step (belowN (Below.refl _ _) _) L.lt, F.step (belowN (Below.refl _ _) _) F.le, W.step (belowN (Below.refl _ _) _) W.le⟩
          case measure => simp [intOf]; omega
        · obtain rfl : k = es.length := by omega
          go_wp2_with fail
          go_returns
          exact ⟨rfl, HB.out.trans (L.below.mono s1)⟩
    · have hz : allPL n es a b = [] := by
        unfold allPL
        split
        next h =>
          have h0 : es.length = 0 := Nat.le_zero.1 (Nat.not_lt.1 fun h2 => hn ⟨h, h2⟩)
          rw [h0]; rfl
        next => rfl
      have hI : ∀ u, EdgesIn u u.heap.size A1 es → Calls Try.prog 28 #[.agg #[.int .i64 n, .slice A1 es.length c], .int .i64 a, .int .i64 b] u (GotInts u []) := fun u h => by
        have := allPivots_any n a b A1 c es u h hle'
        rw [hz] at this; exact this
      have hS : ∀ u, EdgesIn u u.heap.size A1 es → Calls Try.prog 29 #[.agg #[.int .i64 n, .slice A1 es.length c], .int .i64 a, .int .i64 b] u (GotInts u []) := fun u h => by
        have := specAllPivots_any n a b A1 c es u h hle'
        rw [hz] at this; exact this
      have HI := Lib.hid hI
      have HS := Lib.hid hS
      clear hI hS hn hz
      have c0 := L1.c0
      have c1 := L1.c1
      go_wp2_with fail
      refine (HI.out _ L1.edges).mono ?_
      rintro e2 w2 ⟨g2, c2, rfl, own2, hb2⟩
      have L2 := L1.step hb2 L1.lt
      have F2 := RowAt.start own2
      clear hb2 own2 L1 c0 c1
      have c0 := L2.c0
      have c1 := L2.c1
      go_wp2_with fail
      refine (HS.out _ L2.edges).mono ?_
      rintro e3 w3 ⟨g3, c3, rfl, own3, hb3⟩
      have L3 := L2.step hb3 L2.lt
      have F3 := F2.next hb3
      clear hb3 L2 F2 c0 c1
      go_wp2_with fail
      refine (sameInts_self _ _ _ _ _ _ _ F3.ints own3.ints rfl (by simp)).mono ?_
      rintro e4 w4 ⟨rfl, hb4⟩
      have L4 := L3.step hb4 L3.lt
      clear hb4 L3 F3 own3
      go_wp2_with fail
      refine (alive_any _).mono ?_
      rintro e6 w6 ⟨rfl, hb6⟩
      have L6 := L4.step hb6 L4.lt
      go_wp2_with fail
      go_returns
      exact ⟨rfl, HB.out.trans (L6.below.mono s1)⟩

namespace fnAllPivots
open Go.ChangeShapes Go.WideShapes Go.ChangeAt Go.RowKit Go.Deep Go.Joins
set_option linter.unusedVariables false
set_option maxRecDepth 100000 in
theorem lifted (os : Os) (started : os.Started) (H : Type) (enc : TypeId × Value → H) :
    ReturnsInHanded {} Try.checked os 8 .any (Rows.fnAllPivotsSpec.pre6 enc Try.prog Try.f8 Rows.fnAllPivotsRow.domain false) (Rows.fnAllPivotsSpec.post enc Try.prog Try.f8 false true false false) := by
  refine returnsInHanded_of_change (C := Try.checked) own started (by kernel_rfl) Try.func8
    (ChangeSpec.witness6 (enc := enc) (C := Try.checked) false ⟨#[], #[.slice none 0 0], []⟩ 8 (by kernel_rfl) (by kernel_rfl) (by kernel_rfl) (by kernel_rfl)) ?_
  intro W base args ds gs before hval0 hW hcnd _
  have hval : ∀ (j : Nat) t v, Try.f8.params[j]? = some t → args[j]? = some v → Value.okWide Try.prog W .any base t v := hval0
  have hW' := hW
  obtain ⟨p, q, hA0, hV, rfl, hfz, hnd⟩ := hW
  have hA : DataW.TrodAll enc Try.prog W 0 (fun _ => true) true Try.f8.params.toList args.toList ds p := hA0
  rw [Try.params8] at hA hval
  obtain ⟨v0, vs0, d0, ds0, p0, q0, hargs, rfl, rfl, h0, r0⟩ := trodAll_cons hA
  obtain ⟨rfl, rfl, rfl⟩ := trodAll_nil r0
  obtain rfl : args = #[v0] := by cases args; simp_all
  obtain ⟨rfl, rfl⟩ := trodVars_none hV
  have k0 := h0
  have lt0 : ∀ x ∈ p0, x.block < W.heap.size := by obtain ⟨m, hm⟩ := k0; exact DataW.trod_lt m _ _ _ hm
  obtain ⟨A0, c0, bs0, rfl, hb0, hl0⟩ := open_bytes (hval 0 22 v0 rfl rfl) h0
  clear hA0 hval0
  refine (allPivots_law A0 c0 bs0 W hb0 hl0).mono fun e W' ⟨he, bel⟩ => ?_
  subst he
  exact ⟨_, rfl, _, _, _, [], _, [], hW', trodAll_mk1 (shut_bool Try.underlying4 _), (trodAll_cons_mk (Below.trod laidOut (by kernel_rfl) (of_decide_eq_true (by kernel_rfl)) k0 bel lt0) trodAll_mk0), rfl, bel.frame _, fun h => by cases h⟩

theorem holds : Rows.FnAllPivotsSaid :=
  OpenClaim.holds_of_wide 8 Try.f8 rfl rfl rfl rfl rfl rfl rfl ⟨rfl, rfl, rfl, rfl, rfl⟩ rfl rfl rfl rfl rfl (by kernel_rfl) Try.func8 (by kernel_rfl)
    (of_decide_eq_true (by kernel_rfl)) (by unfold Func.isWrapper; first | (rw [if_pos (by decide +kernel)]; kernel_rfl) | (rw [if_neg (by decide +kernel)]; exact ⟨rfl, rfl⟩))
    (fun os started H enc _ => lifted os started H enc)
end fnAllPivots
end Go.Proofs.Ytfflfinhhdhnkab
