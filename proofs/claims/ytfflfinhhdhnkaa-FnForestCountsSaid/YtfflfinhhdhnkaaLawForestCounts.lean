/- The law FnForestCounts holds of every code: the count of 0 edges is 1, that of 1 edge the edges; from as many edges as nodes on it is 0; and the count of one less edges than nodes is that of WholeCounts. -/
import Derived.Test.YtfflfinhhdhnkaaBytes
import Derived.Test.YtfflfinhhdhnkaaDrawT
import Derived.Test.YtfflfinhhdhnkaaImplCnt
import Derived.Test.YtfflfinhhdhnkaaObj
namespace Go.Proofs.Ytfflfinhhdhnkaa
open Go.RowKit
set_option maxRecDepth 100000

set_option maxHeartbeats 4000000 in
theorem forestCounts_law (A : Option Addr) (cap l : Nat) (w : World) (hb : BytesIn w w.heap.size A l) (hc : l ≤ cap) :
    Calls Try.prog 5 #[.slice A l cap] w fun e w' => e = .returned (.bool true) ∧ Below w.heap.size w w' := by
  by_cases hbig : 1048576 < l
  · go_enter Try.func5, Try.ntmps5
    go_wp2
    go_returns
    exact ⟨rfl, Below.refl _ _⟩
  · have hl : l ≤ 1048576 := by omega
    clear hbig
    go_enter Try.func5, Try.ntmps5
    go_wp2_with fail
    refine (drawForestCounts_any _ _ _ _ hb hl hc).mono ?_
    rintro e1 w1 ⟨n, A1, c, es, rfl, own, n1, n7, hle, hb1⟩
    have L1 := ArgNet.start (cap := c) (n := n) 25 own.edges
    have HB := Lib.hid hb1
    have hle' : es.length ≤ 1048576 := by omega
    have s1 := hb1.size
    clear own hb hb1
    by_cases hn : netOkB n es = true
    · have hlF : (forestL n es).length = es.length + 1 := by unfold forestL; rw [if_pos hn, rowL_length]
      have hlW : (wholeL n es).length = es.length + 1 := by unfold wholeL; rw [if_pos hn, rowL_length]
      have hF : ∀ k, k < es.length + 1 → (forestL n es).getD k 0 = (forestC es k : Nat) := fun k hk => by unfold forestL; rw [if_pos hn, rowL_getD _ hk]
      have hW : ∀ k, k < es.length + 1 → (wholeL n es).getD k 0 = (wholeC n es k : Nat) := fun k hk => by unfold wholeL; rw [if_pos hn, rowL_getD _ hk]
      have f0 := forestC_zero es
      have f1 := forestC_one hn
      have fm : ∀ k : Nat, n ≤ k → forestC es k = 0 := fun k hk => forestC_many hn hk
      have fw : ∀ k : Nat, (k : Int) = n - 1 → forestC es k = wholeC n es k := fun k hk => forestC_whole hn hk
      have hI : ∀ u, EdgesIn u u.heap.size A1 es → Calls Try.prog 24 #[.agg #[.int .i64 n, .slice A1 es.length c]] u (GotRow u es.length (forestL n es)) := fun u h => (forestCounts_any n A1 c es u h hle').mono fun _ _ => GotInts.row hlF
      have hS : ∀ u, EdgesIn u u.heap.size A1 es → Calls Try.prog 25 #[.agg #[.int .i64 n, .slice A1 es.length c]] u (GotRow u es.length (forestL n es)) := fun u h => (specForestCounts_any n A1 c es u h hle').mono fun _ _ => GotInts.row hlF
      have hWh : ∀ u, EdgesIn u u.heap.size A1 es → Calls Try.prog 17 #[.agg #[.int .i64 n, .slice A1 es.length c]] u (GotRow u es.length (wholeL n es)) := fun u h => (wholeCounts_any n A1 c es u h hle').mono fun _ _ => GotInts.row hlW
      have hn2 := (netOkB_iff.1 hn).1
      have h9 := (netOkB_iff.1 hn).2.1
      generalize forestL n es = fs at *
      generalize wholeL n es = ws at *
      have HLF := Lib.hid hlF
      have HI := Lib.hid hI
      have HS := Lib.hid hS
      have HW := Lib.hid hWh
      have HFv := Lib.hid hF
      have HWv := Lib.hid hW
      have HF0 := Lib.hid f0
      have HF1 := Lib.hid f1
      have HFM := Lib.hid fm
      have HFW := Lib.hid fw
      have hwn : IntKind.i64.wrap (n - 1) = n - 1 := IntWalk.i64_in _ (by omega)
      clear hlF hlW hI hS hWh hF hW f0 f1 fm fw hn
      go_wp2_with fail
      refine (HI.out _ L1.edges).mono ?_
      rintro e2 w2 ⟨g2, c2, rfl, own2, hb2⟩
      have L2 := L1.step hb2 L1.lt
      have F2 := RowAt.start own2
      clear hb2 own2 L1
      have c0 := L2.c0
      have c1 := L2.c1
      go_wp2_with fail
      refine (HS.out _ L2.edges).mono ?_
      rintro e3 w3 ⟨g3, c3, rfl, own3, hb3⟩
      have L3 := L2.step hb3 L2.lt
      have F3 := F2.next hb3
      clear hb3 L2 F2 c0 c1
      go_wp2_with fail
      refine (sameInts_self _ _ _ _ _ _ _ F3.ints own3.ints HLF.out (by omega)).mono ?_
      rintro e4 w4 ⟨rfl, hb4⟩
      have L4 := L3.step hb4 L3.lt
      have F4 := F3.next hb4
      clear hb4 L3 F3 own3
      have c0 := L4.c0
      have c1 := L4.c1
      go_wp2_with fail
      refine (HW.out _ L4.edges).mono ?_
      rintro e5 w5 ⟨g5, c5, rfl, own5, hb5⟩
      have L5 := L4.step hb5 L4.lt
      have F5 := F4.next hb5
      have W5 := RowAt.start own5
      have le5 := W5.le
      clear hb5 L4 F4 own5 c0 c1
      generalize w5.heap.size = b5 at *
      generalize w4.heap.size = b4 at *
      generalize w2.heap.size = b2 at *
      go_wp2_with fail
      go_loopw [6] (fun t wr => ∃ k : Nat, k ≤ es.length + 1 ∧ t = .int .i64 (k : Nat) ∧ ArgNet w1 wr n A1 c es ∧ RowAt wr _ b2 (.slice (some ⟨g2, 0, none⟩) (es.length + 1) c2) fs ∧ RowAt wr b4 b5 (.slice (some ⟨g5, 0, none⟩) (es.length + 1) c5) ws) (fun t _ => es.length + 1 - (intOf t).toNat)
      case atStart => exact ⟨0, by omega, rfl, L5, F5, W5⟩
      case round =>
        clear L5 F5 W5
        obtain ⟨k, hk, rfl, L, F, W⟩ := hrel
        by_cases hlt : k < es.length + 1
        · have hv := HFv.out k hlt
          have hv2 := HWv.out k hlt
          have x1 := F.cell hlt
          have x2 := W.cell hlt
          rw [hv] at x1
          rw [hv2] at x2
          obtain ⟨_, _, c0, c1, s4⟩ := id L
          rcases (show n ≤ k ∨ (k : Int) = n - 1 ∨ (k : Int) < n - 1 by omega) with hc1 | hc1 | hc1
          · have hz := HFM.out k hc1
            rw [hz] at x1
            have d1 : decide (n ≤ (k : Int)) = true := by simpa using hc1
            have d2 : ((k : Int) == n - 1) = false := by simp; omega
            go_wp2_with fail
            refine wp_region_class (fun u => ArgNet w1 u n A1 c es ∧ RowAt u _ b2 (.slice (some ⟨g2, 0, none⟩) (es.length + 1) c2) fs ∧ RowAt u b4 b5 (.slice (some ⟨g5, 0, none⟩) (es.length + 1) c5) ws ∧ u.cell? ⟨g2, k, none⟩ = wr.cell? ⟨g2, k, none⟩ ∧ u.cell? ⟨g5, k, none⟩ = wr.cell? ⟨g5, k, none⟩) (by kernel_rfl) (by kernel_rfl) ⟨L.drew, F.step ((Below.refl wr.heap.size wr).drew) F.le, W.step ((Below.refl wr.heap.size wr).drew) W.le, rfl, rfl⟩ ?_
            intro X hX f hf hex
            have k0 : ∀ x, (f x).cell? ⟨w1.heap.size, 0, none⟩ = some (.int .i64 n) := fun x => (hf x).1.c0
            have k1 : ∀ x, (f x).cell? ⟨w1.heap.size, 1, none⟩ = some (.slice A1 es.length c) := fun x => (hf x).1.c1
            have k2 := fun x => (hf x).2.2.2.1.trans x1
            have k3 := fun x => (hf x).2.2.2.2.trans x2
            repeat (go_big_quiet_step (fail))
            refine wpQuiet_nil ?_
            rintro _ ⟨x, rfl⟩
            obtain ⟨L4, F4, W4, -, -⟩ := hf x
            go_wp2_with fail
            go_roundw
            case rel => exact ⟨k + 1, by omega, by go_num, L4, F4, W4⟩
            case measure => simp [intOf]; omega
          · have hz := HFW.out k hc1
            rw [hz] at x1
            generalize wholeC n es k = z at *
            have d1 : decide (n ≤ (k : Int)) = false := by simp; omega
            have d2 : ((k : Int) == n - 1) = true := by simpa using hc1
            have e1 : (k : Int) ≤ n - 1 := by omega
            have e2 : n - 1 ≤ (k : Int) := by omega
            clear hc1 hz
            go_wp2_with fail
            refine wp_region_class (fun u => ArgNet w1 u n A1 c es ∧ RowAt u _ b2 (.slice (some ⟨g2, 0, none⟩) (es.length + 1) c2) fs ∧ RowAt u b4 b5 (.slice (some ⟨g5, 0, none⟩) (es.length + 1) c5) ws ∧ u.cell? ⟨g2, k, none⟩ = wr.cell? ⟨g2, k, none⟩ ∧ u.cell? ⟨g5, k, none⟩ = wr.cell? ⟨g5, k, none⟩) (by kernel_rfl) (by kernel_rfl) ⟨L.drew, F.step ((Below.refl wr.heap.size wr).drew) F.le, W.step ((Below.refl wr.heap.size wr).drew) W.le, rfl, rfl⟩ ?_
            intro X hX f hf hex
            have k0 : ∀ x, (f x).cell? ⟨w1.heap.size, 0, none⟩ = some (.int .i64 n) := fun x => (hf x).1.c0
            have k1 : ∀ x, (f x).cell? ⟨w1.heap.size, 1, none⟩ = some (.slice A1 es.length c) := fun x => (hf x).1.c1
            have k2 := fun x => (hf x).2.2.2.1.trans x1
            have k3 := fun x => (hf x).2.2.2.2.trans x2
            repeat (go_big_quiet_step (fail))
            refine wpQuiet_nil ?_
            rintro _ ⟨x, rfl⟩
            obtain ⟨L4, F4, W4, -, -⟩ := hf x
            go_wp2_with fail
            go_roundw
            case rel => exact ⟨k + 1, by omega, by go_num, L4, F4, W4⟩
            case measure => simp [intOf]; omega
          · generalize forestC es k = z1 at *
            generalize wholeC n es k = z2 at *
            have d1 : decide (n ≤ (k : Int)) = false := by simp; omega
            have d2 : ((k : Int) == n - 1) = false := by simp; omega
            go_wp2_with fail
            refine wp_region_class (fun u => ArgNet w1 u n A1 c es ∧ RowAt u _ b2 (.slice (some ⟨g2, 0, none⟩) (es.length + 1) c2) fs ∧ RowAt u b4 b5 (.slice (some ⟨g5, 0, none⟩) (es.length + 1) c5) ws ∧ u.cell? ⟨g2, k, none⟩ = wr.cell? ⟨g2, k, none⟩ ∧ u.cell? ⟨g5, k, none⟩ = wr.cell? ⟨g5, k, none⟩) (by kernel_rfl) (by kernel_rfl) ⟨L.drew, F.step ((Below.refl wr.heap.size wr).drew) F.le, W.step ((Below.refl wr.heap.size wr).drew) W.le, rfl, rfl⟩ ?_
            intro X hX f hf hex
            have k0 : ∀ x, (f x).cell? ⟨w1.heap.size, 0, none⟩ = some (.int .i64 n) := fun x => (hf x).1.c0
            have k1 : ∀ x, (f x).cell? ⟨w1.heap.size, 1, none⟩ = some (.slice A1 es.length c) := fun x => (hf x).1.c1
            have k2 := fun x => (hf x).2.2.2.1.trans x1
            have k3 := fun x => (hf x).2.2.2.2.trans x2
            repeat (go_big_quiet_step (fail))
            refine wpQuiet_nil ?_
            rintro _ ⟨x, rfl⟩
            obtain ⟨L4, F4, W4, -, -⟩ := hf x
            go_wp2_with fail
            go_roundw
            case rel => exact ⟨k + 1, by omega, by go_num, L4, F4, W4⟩
            case measure => simp [intOf]; omega
        · obtain rfl : k = es.length + 1 := by omega
          have x1 := F.cell (show 0 < es.length + 1 by omega)
          rw [HFv.out 0 (by omega), HF0.out] at x1
          have x1 : wr.cell? ⟨g2, 0, none⟩ = some (.int .i64 1) := x1
          have i0 : (0 : Int) < (es.length : Int) + 1 := by omega
          obtain ⟨_, _, c0, c1, s4⟩ := id L
          by_cases h1 : 1 ≤ es.length
          · have x2 := F.cell (show 1 < es.length + 1 by omega)
            rw [HFv.out 1 (by omega), HF1.out] at x2
            have i1 : (1 : Int) < (es.length : Int) + 1 := by omega
            have i2 : decide ((es.length : Int) + 1 < 2) = false := by simp; omega
            go_wp2_with fail
            refine wp_region_class (fun u => ArgNet w1 u n A1 c es ∧ RowAt u _ b2 (.slice (some ⟨g2, 0, none⟩) (es.length + 1) c2) fs ∧ RowAt u b4 b5 (.slice (some ⟨g5, 0, none⟩) (es.length + 1) c5) ws ∧ u.cell? ⟨g2, 0, none⟩ = wr.cell? ⟨g2, 0, none⟩ ∧ u.cell? ⟨g2, 1, none⟩ = wr.cell? ⟨g2, 1, none⟩) (by kernel_rfl) (by kernel_rfl) ⟨L.drew, F.step ((Below.refl wr.heap.size wr).drew) F.le, W.step ((Below.refl wr.heap.size wr).drew) W.le, rfl, rfl⟩ ?_
            intro X hX f hf hex
            have k0 : ∀ x, (f x).cell? ⟨w1.heap.size, 0, none⟩ = some (.int .i64 n) := fun x => (hf x).1.c0
            have k1 : ∀ x, (f x).cell? ⟨w1.heap.size, 1, none⟩ = some (.slice A1 es.length c) := fun x => (hf x).1.c1
            have k2 := fun x => (hf x).2.2.2.1.trans x1
            have k3 := fun x => (hf x).2.2.2.2.trans x2
            repeat (go_big_quiet_step (fail))
            refine wpQuiet_nil ?_
            rintro _ ⟨x, rfl⟩
            obtain ⟨L4, F4, W4, -, -⟩ := hf x
            go_wp2_with fail
            go_returns
            exact ⟨rfl, HB.out.trans (L4.below.mono s1)⟩
          · have i2 : decide ((es.length : Int) + 1 < 2) = true := by simp; omega
            go_wp2_with fail
            refine wp_region_class (fun u => ArgNet w1 u n A1 c es ∧ RowAt u _ b2 (.slice (some ⟨g2, 0, none⟩) (es.length + 1) c2) fs ∧ RowAt u b4 b5 (.slice (some ⟨g5, 0, none⟩) (es.length + 1) c5) ws ∧ u.cell? ⟨g2, 0, none⟩ = wr.cell? ⟨g2, 0, none⟩) (by kernel_rfl) (by kernel_rfl) ⟨L.drew, F.step ((Below.refl wr.heap.size wr).drew) F.le, W.step ((Below.refl wr.heap.size wr).drew) W.le, rfl⟩ ?_
            intro X hX f hf hex
            have k0 : ∀ x, (f x).cell? ⟨w1.heap.size, 0, none⟩ = some (.int .i64 n) := fun x => (hf x).1.c0
            have k1 : ∀ x, (f x).cell? ⟨w1.heap.size, 1, none⟩ = some (.slice A1 es.length c) := fun x => (hf x).1.c1
            have k2 := fun x => (hf x).2.2.2.trans x1
            repeat (go_big_quiet_step (fail))
            refine wpQuiet_nil ?_
            rintro _ ⟨x, rfl⟩
            obtain ⟨L4, F4, W4, -⟩ := hf x
            go_wp2_with fail
            go_returns
            exact ⟨rfl, HB.out.trans (L4.below.mono s1)⟩
    · have hI : ∀ u, EdgesIn u u.heap.size A1 es → Calls Try.prog 24 #[.agg #[.int .i64 n, .slice A1 es.length c]] u (GotInts u []) := fun u h => by
        have := forestCounts_any n A1 c es u h hle'
        unfold forestL at this; rw [if_neg hn] at this; exact this
      have hS : ∀ u, EdgesIn u u.heap.size A1 es → Calls Try.prog 25 #[.agg #[.int .i64 n, .slice A1 es.length c]] u (GotInts u []) := fun u h => by
        have := specForestCounts_any n A1 c es u h hle'
        unfold forestL at this; rw [if_neg hn] at this; exact this
      have HI := Lib.hid hI
      have HS := Lib.hid hS
      have HN : Hid (netOkB n es = false) := by simpa [Hid] using hn
      clear hI hS hn
      go_wp2_with fail
      refine (HI.out _ L1.edges).mono ?_
      rintro e2 w2 ⟨g2, c2, rfl, own2, hb2⟩
      have L2 := L1.step hb2 L1.lt
      have F2 := RowAt.start own2
      clear hb2 own2 L1
      have c0 := L2.c0
      have c1 := L2.c1
      go_wp2_with fail
      refine (HS.out _ L2.edges).mono ?_
      rintro e3 w3 ⟨g3, c3, rfl, own3, hb3⟩
      have L3 := L2.step hb3 L2.lt
      have F3 := F2.next hb3
      clear hb3 L2 F2 c0 c1
      go_wp2_with fail
      refine (sameInts_self _ _ _ _ _ _ _ F3.ints own3.ints rfl (by simp)).mono ?_
      rintro e4 w4 ⟨rfl, hb4⟩
      have L4 := L3.step hb4 L3.lt
      clear hb4 L3 F3 own3
      have c0 := L4.c0
      have c1 := L4.c1
      go_wp2_with fail
      refine (netOk_any _ _ _ _ _ L4.edges hle').mono ?_
      rintro e5 w5 ⟨rfl, hb5⟩
      rw [HN.out]
      have L5 := L4.step hb5 L4.lt
      go_wp2_with fail
      refine (alive_any _).mono ?_
      rintro e6 w6 ⟨rfl, hb6⟩
      have L6 := L5.step hb6 L5.lt
      go_wp2_with fail
      go_returns
      exact ⟨rfl, HB.out.trans (L6.below.mono s1)⟩

namespace fnForestCounts
open Go.ChangeShapes Go.WideShapes Go.ChangeAt Go.RowKit Go.Deep Go.Joins
set_option linter.unusedVariables false
set_option maxRecDepth 100000 in
theorem lifted (os : Os) (started : os.Started) (H : Type) (enc : TypeId × Value → H) :
    ReturnsInHanded {} Try.checked os 5 .any (Rows.fnForestCountsSpec.pre6 enc Try.prog Try.f5 Rows.fnForestCountsRow.domain false) (Rows.fnForestCountsSpec.post enc Try.prog Try.f5 false true false false) := by
  refine returnsInHanded_of_change (C := Try.checked) own started (by kernel_rfl) Try.func5
    (ChangeSpec.witness6 (enc := enc) (C := Try.checked) false ⟨#[], #[.slice none 0 0], []⟩ 8 (by kernel_rfl) (by kernel_rfl) (by kernel_rfl) (by kernel_rfl)) ?_
  intro W base args ds gs before hval0 hW hcnd _
  have hval : ∀ (j : Nat) t v, Try.f5.params[j]? = some t → args[j]? = some v → Value.okWide Try.prog W .any base t v := hval0
  have hW' := hW
  obtain ⟨p, q, hA0, hV, rfl, hfz, hnd⟩ := hW
  have hA : DataW.TrodAll enc Try.prog W 0 (fun _ => true) true Try.f5.params.toList args.toList ds p := hA0
  rw [Try.params5] at hA hval
  obtain ⟨v0, vs0, d0, ds0, p0, q0, hargs, rfl, rfl, h0, r0⟩ := trodAll_cons hA
  obtain ⟨rfl, rfl, rfl⟩ := trodAll_nil r0
  obtain rfl : args = #[v0] := by cases args; simp_all
  obtain ⟨rfl, rfl⟩ := trodVars_none hV
  have k0 := h0
  have lt0 : ∀ x ∈ p0, x.block < W.heap.size := by obtain ⟨m, hm⟩ := k0; exact DataW.trod_lt m _ _ _ hm
  obtain ⟨A0, c0, bs0, rfl, hb0, hl0⟩ := open_bytes (hval 0 22 v0 rfl rfl) h0
  clear hA0 hval0
  refine (forestCounts_law A0 c0 bs0 W hb0 hl0).mono fun e W' ⟨he, bel⟩ => ?_
  subst he
  exact ⟨_, rfl, _, _, _, [], _, [], hW', trodAll_mk1 (shut_bool Try.underlying4 _), (trodAll_cons_mk (Below.trod laidOut (by kernel_rfl) (of_decide_eq_true (by kernel_rfl)) k0 bel lt0) trodAll_mk0), rfl, bel.frame _, fun h => by cases h⟩

theorem holds : Rows.FnForestCountsSaid :=
  OpenClaim.holds_of_wide 5 Try.f5 rfl rfl rfl rfl rfl rfl rfl ⟨rfl, rfl, rfl, rfl, rfl⟩ rfl rfl rfl rfl rfl (by kernel_rfl) Try.func5 (by kernel_rfl)
    (of_decide_eq_true (by kernel_rfl)) (by unfold Func.isWrapper; first | (rw [if_pos (by decide +kernel)]; kernel_rfl) | (rw [if_neg (by decide +kernel)]; exact ⟨rfl, rfl⟩))
    (fun os started H enc _ => lifted os started H enc)
end fnForestCounts

end Go.Proofs.Ytfflfinhhdhnkaa
