/- The law FnJoiningCounts holds of every code: for both nodes exchanged it is the same; each count is at most all states with so many edges; and each, times the edges that lack, is at most the next one times its edges. -/
import Derived.Test.YtfflfinhhdhnkaaBytes
import Derived.Test.YtfflfinhhdhnkaaDrawT
import Derived.Test.YtfflfinhhdhnkaaImplCnt
import Derived.Test.YtfflfinhhdhnkaaChoose
import Derived.Test.YtfflfinhhdhnkaaObj
namespace Go.Proofs.Ytfflfinhhdhnkaa
open Go.RowKit
set_option maxRecDepth 100000

theorem joiningL_swap (n : Int) (es : List (Int × Int)) (a b : Int) : joiningL n es b a = joiningL n es a b := by
  have e : joinOkB n es b a = joinOkB n es a b := by
    rw [Bool.eq_iff_iff, joinOkB_iff, joinOkB_iff]
    constructor
    · rintro ⟨h1, h2, h3, h4⟩; exact ⟨h1, h3, h2, h4.symm⟩
    · rintro ⟨h1, h2, h3, h4⟩; exact ⟨h1, h3, h2, h4.symm⟩
  unfold joiningL
  rw [e]
  split
  · exact rowL_congr fun k _ => by rw [joinC_swap]
  · rfl

set_option maxHeartbeats 4000000 in
theorem joiningCounts_law (A : Option Addr) (cap l : Nat) (w : World) (hb : BytesIn w w.heap.size A l) (hc : l ≤ cap) :
    Calls Try.prog 3 #[.slice A l cap] w fun e w' => e = .returned (.bool true) ∧ Below w.heap.size w w' := by
  by_cases hbig : 1048576 < l
  · go_enter Try.func3, Try.ntmps3
    go_wp2
    go_returns
    exact ⟨rfl, Below.refl _ _⟩
  · have hl : l ≤ 1048576 := by omega
    clear hbig
    go_enter Try.func3, Try.ntmps3
    go_wp2_with fail
    refine (drawJoiningCounts_any _ _ _ _ hb hl hc).mono ?_
    rintro e1 w1 ⟨n, A1, c, es, a, b, rfl, own, n1, n7, hle, a1, a2, b1, b2, hb1⟩
    have L1 := ArgNet.start (cap := c) (n := n) 25 own.edges
    have HB := Lib.hid hb1
    have hle' : es.length ≤ 1048576 := by omega
    have s1 := hb1.size
    clear own hb hb1
    by_cases hn : joinOkB n es a b = true
    · have hlF : (joiningL n es a b).length = es.length + 1 := by unfold joiningL; rw [if_pos hn, rowL_length]
      have hF : ∀ k, k < es.length + 1 → (joiningL n es a b).getD k 0 = (joinC es a.toNat b.toNat k : Nat) := fun k hk => by unfold joiningL; rw [if_pos hn, rowL_getD _ hk]
      have hn' := joinOkB_iff.1 hn
      have f0 : joinC es a.toNat b.toNat 0 = 0 := joinC_zero es (by omega)
      have fc : ∀ k, joinC es a.toNat b.toNat k ≤ chs es.length k := joinC_le es _ _
      have fn : ∀ k, joinC es a.toNat b.toNat k * (es.length - k) ≤ joinC es a.toNat b.toNat (k + 1) * (k + 1) := joinC_next es _ _
      have hI : ∀ u, EdgesIn u u.heap.size A1 es → Calls Try.prog 11 #[.agg #[.int .i64 n, .slice A1 es.length c], .int .i64 a, .int .i64 b] u (GotRow u es.length (joiningL n es a b)) := fun u h => (joiningCounts_any n a b A1 c es u h hle').mono fun _ _ => GotInts.row hlF
      have hS : ∀ u, EdgesIn u u.heap.size A1 es → Calls Try.prog 13 #[.agg #[.int .i64 n, .slice A1 es.length c], .int .i64 a, .int .i64 b] u (GotRow u es.length (joiningL n es a b)) := fun u h => (specJoiningCounts_any n a b A1 c es u h hle').mono fun _ _ => GotInts.row hlF
      have hX : ∀ u, EdgesIn u u.heap.size A1 es → Calls Try.prog 11 #[.agg #[.int .i64 n, .slice A1 es.length c], .int .i64 b, .int .i64 a] u (GotRow u es.length (joiningL n es a b)) := fun u h => by
        rw [← joiningL_swap n es a b] at hlF ⊢
        exact (joiningCounts_any n b a A1 c es u h hle').mono fun _ _ => GotInts.row hlF
      have h9 := (netOkB_iff.1 hn'.1).2.1
      generalize joiningL n es a b = fs at *
      generalize a.toNat = a' at *
      generalize b.toNat = b' at *
      have HLF := Lib.hid hlF
      have HI := Lib.hid hI
      have HS := Lib.hid hS
      have HX := Lib.hid hX
      have HFv := Lib.hid hF
      have HF0 := Lib.hid f0
      have HFC := Lib.hid fc
      have HFN := Lib.hid fn
      clear hlF hI hS hX hF f0 fc fn hn hn'
      go_wp2_with fail
      refine (HI.out _ L1.edges).mono ?_
      rintro e2 w2 ⟨g2, c2, rfl, own2, hb2⟩
      have L2 := L1.step hb2 L1.lt
      have F2 := RowAt.start (OwnI.more own2 (show w1.heap.size ≤ _ by simp))
      clear hb2 own2 L1
      have c0 := L2.c0
      have c1 := L2.c1
      go_wp2_with fail
      refine (HS.out _ L2.edges).mono ?_
      rintro e3 w3 ⟨g3, c3, rfl, own3, hb3⟩
      have L3 := L2.step hb3 L2.lt
      have F3 := F2.next hb3
      clear hb3 L2 F2 c0 c1
      go_wp2_with fail
      refine (sameInts_self _ _ _ _ _ _ _ F3.ints own3.ints HLF.out (by omega)).mono ?_
      rintro e4 w4 ⟨rfl, hb4⟩
      have L4 := L3.step hb4 L3.lt
      have F4 := F3.next hb4
      clear hb4 L3 F3 own3
      have c0 := L4.c0
      have c1 := L4.c1
      generalize w2.heap.size = b2' at *
      go_wp2_with fail
      go_loopw [8] (fun t wr => ∃ k : Nat, k ≤ es.length + 1 ∧ t = .int .i64 (k : Nat) ∧ ArgNet w1 wr n A1 c es ∧ RowAt wr w1.heap.size b2' (.slice (some ⟨g2, 0, none⟩) (es.length + 1) c2) fs) (fun t _ => es.length + 1 - (intOf t).toNat)
      case atStart => exact ⟨0, by omega, rfl, L4, F4⟩
      case round =>
        clear L4 F4 c0 c1
        obtain ⟨k, hk, rfl, L, F⟩ := hrel
        by_cases hlt : k < es.length + 1
        · have hv := HFv.out k hlt
          have hcb := chs_bound (n := es.length) (by omega) k
          have hjc := HFC.out k
          have hch := chsI_nat (n := es.length) (k := k) (by omega)
          have hjn := HFN.out k
          generalize joinC es a' b' k = J at *
          generalize chs es.length k = Cv at *
          have HCh : Hid (∀ u : World, Calls Try.prog 15 #[.int .i64 es.length, .int .i64 k] u fun e w' => e = .returned (.int .i64 (Cv : Nat)) ∧ Below u.heap.size u w') := fun u => choices_is _ _ _ hch u
          have hCh := HCh.out
          have d1 : decide ((Cv : Int) < (J : Int)) = false := by simp; omega
          have d1' : decide (Cv < J) = false := by simp; omega
          have ik : (k : Int) < (es.length : Int) + 1 := by omega
          clear hch HCh
          by_cases hkm : k < es.length
          · have hv2 := HFv.out (k + 1) (by omega)
            have hj2 := HFC.out (k + 1)
            have hcb2 := chs_bound (n := es.length) (by omega) (k + 1)
            generalize joinC es a' b' (k + 1) = J2 at *
            have hj2' : J2 ≤ 1048576 := by omega
            clear hj2 hcb2
            have w1' : IntKind.i64.wrap ((es.length : Int) - (k : Int)) = ((es.length - k : Nat) : Int) := by rw [IntWalk.i64_in _ (by omega)]; omega
            have w3' : IntKind.i64.wrap ((k : Int) + 1) = ((k + 1 : Nat) : Int) := by rw [IntWalk.i64_in _ (by omega)]; omega
            have u1 : J * (es.length - k) ≤ 1048576 * 9 := Nat.mul_le_mul (by omega) (by omega)
            have u2 : J2 * (k + 1) ≤ 1048576 * 9 := Nat.mul_le_mul hj2' (by omega)
            have w2' : IntKind.i64.wrap ((J : Int) * ((es.length - k : Nat) : Int)) = ((J * (es.length - k) : Nat) : Int) := by rw [← Int.natCast_mul]; exact IntWalk.i64_in _ (by omega)
            have w4' : IntKind.i64.wrap ((J2 : Int) * ((k + 1 : Nat) : Int)) = ((J2 * (k + 1) : Nat) : Int) := by rw [← Int.natCast_mul]; exact IntWalk.i64_in _ (by omega)
            have w5' : IntKind.i64.wrap ((J2 : Int) * ((k : Int) + 1)) = ((J2 * (k + 1) : Nat) : Int) := by
              have e : (k : Int) + 1 = ((k + 1 : Nat) : Int) := by omega
              rw [e]; exact w4'
            have w6' : IntKind.i64.wrap ((k : Int) + 1) = (k : Int) + 1 := IntWalk.i64_in _ (by omega)
            have d2 : decide ((k : Int) < (es.length : Int)) = true := by simp; omega
            have d3 : decide (((J2 * (k + 1) : Nat) : Int) < ((J * (es.length - k) : Nat) : Int)) = false := by simp only [decide_eq_false_iff_not]; omega
            have d3' : decide (J2 * (k + 1) < J * (es.length - k)) = false := by simp only [decide_eq_false_iff_not]; omega
            have d2' : decide (k < es.length) = true := by simp; omega
            have ik2 : (k : Int) + 1 < (es.length : Int) + 1 := by omega
            have hd4 : (0 : Int) ≤ (k : Int) + 1 := by omega
            clear u1 u2 hjn hj2' w3'
            generalize hz1 : J * (es.length - k) = z1 at *
            generalize hz2 : J2 * (k + 1) = z2 at *
            generalize hz3 : es.length - k = z3 at *
            clear hz1 hz2 hz3
            go_wp2_with fail
            refine wp_region_class (fun u => ArgNet w1 u n A1 c es ∧ RowAt u w1.heap.size b2' (.slice (some ⟨g2, 0, none⟩) (es.length + 1) c2) fs) (by kernel_rfl) (by kernel_rfl) ⟨L.drew, F.step ((Below.refl wr.heap.size wr).drew) F.le⟩ ?_
            intro X hX f hf hex
            have hOn : ∀ u, (ArgNet w1 u n A1 c es ∧ RowAt u w1.heap.size b2' (.slice (some ⟨g2, 0, none⟩) (es.length + 1) c2) fs) → ∀ w', Below u.heap.size u w' → (ArgNet w1 w' n A1 c es ∧ RowAt w' w1.heap.size b2' (.slice (some ⟨g2, 0, none⟩) (es.length + 1) c2) fs) := fun u h w' hb => ⟨h.1.step hb h.1.lt, h.2.next hb⟩
            have k2 : ∀ x, (f x).cell? ⟨g2, k, none⟩ = some (.int .i64 (J : Nat)) := fun x => by have := (hf x).2.cell hlt; rw [hv] at this; exact this
            have k3 : ∀ x, (f x).cell? ⟨g2, k + 1, none⟩ = some (.int .i64 (J2 : Nat)) := fun x => by have := (hf x).2.cell (show k + 1 < es.length + 1 by omega); rw [hv2] at this; exact this
            clear hv hv2
            repeat (go_big_quiet_step (first
              | (go_at_call 15; with_reducible exact class_of hex (hCh _) (hOn _ (hf _)))))
            refine wpQuiet_nil ?_
            rintro _ ⟨x, rfl⟩
            obtain ⟨L4, F4⟩ := hf x
            go_wp2_with fail
            go_roundw
            case rel => exact ⟨k + 1, by omega, by go_num, L4, F4⟩
            case measure => simp [intOf]; omega
          · have d2 : decide ((k : Int) < (es.length : Int)) = false := by simp; omega
            have d2' : decide (k < es.length) = false := by simp; omega
            clear hjn
            go_wp2_with fail
            refine wp_region_class (fun u => ArgNet w1 u n A1 c es ∧ RowAt u w1.heap.size b2' (.slice (some ⟨g2, 0, none⟩) (es.length + 1) c2) fs) (by kernel_rfl) (by kernel_rfl) ⟨L.drew, F.step ((Below.refl wr.heap.size wr).drew) F.le⟩ ?_
            intro X hX f hf hex
            have hOn : ∀ u, (ArgNet w1 u n A1 c es ∧ RowAt u w1.heap.size b2' (.slice (some ⟨g2, 0, none⟩) (es.length + 1) c2) fs) → ∀ w', Below u.heap.size u w' → (ArgNet w1 w' n A1 c es ∧ RowAt w' w1.heap.size b2' (.slice (some ⟨g2, 0, none⟩) (es.length + 1) c2) fs) := fun u h w' hb => ⟨h.1.step hb h.1.lt, h.2.next hb⟩
            have k2 : ∀ x, (f x).cell? ⟨g2, k, none⟩ = some (.int .i64 (J : Nat)) := fun x => by have := (hf x).2.cell hlt; rw [hv] at this; exact this
            clear hv
            repeat (go_big_quiet_step (first
              | (go_at_call 15; with_reducible exact class_of hex (hCh _) (hOn _ (hf _)))))
            refine wpQuiet_nil ?_
            rintro _ ⟨x, rfl⟩
            obtain ⟨L4, F4⟩ := hf x
            go_wp2_with fail
            go_roundw
            case rel => exact ⟨k + 1, by omega, by go_num, L4, F4⟩
            case measure => simp [intOf]; omega
        · obtain rfl : k = es.length + 1 := by omega
          have c0 := L.c0
          have c1 := L.c1
          have i0 : (0 : Int) < (es.length : Int) + 1 := by omega
          go_wp2_with fail
          refine (HX.out _ L.edges).mono ?_
          rintro e5 w5 ⟨g5, c5, rfl, own5, hb5⟩
          have L5 := L.step hb5 L.lt
          have F5 := F.next hb5
          clear hb5 L F c0 c1
          go_wp2_with fail
          refine (sameInts_self _ _ _ _ _ _ _ own5.ints F5.ints HLF.out (by omega)).mono ?_
          rintro e6 w6 ⟨rfl, hb6⟩
          have L6 := L5.step hb6 L5.lt
          have F6 := F5.next hb6
          clear hb6 L5 F5 own5
          have x1 := F6.cell (show 0 < es.length + 1 by omega)
          rw [HFv.out 0 (by omega), HF0.out] at x1
          have x1 : w6.cell? ⟨g2, 0, none⟩ = some (.int .i64 0) := x1
          go_wp2_with fail
          go_returns
          exact ⟨rfl, HB.out.trans (L6.below.mono s1)⟩
    · have hI : ∀ u, EdgesIn u u.heap.size A1 es → Calls Try.prog 11 #[.agg #[.int .i64 n, .slice A1 es.length c], .int .i64 a, .int .i64 b] u (GotInts u []) := fun u h => by
        have := joiningCounts_any n a b A1 c es u h hle'
        unfold joiningL at this; rw [if_neg hn] at this; exact this
      have hS : ∀ u, EdgesIn u u.heap.size A1 es → Calls Try.prog 13 #[.agg #[.int .i64 n, .slice A1 es.length c], .int .i64 a, .int .i64 b] u (GotInts u []) := fun u h => by
        have := specJoiningCounts_any n a b A1 c es u h hle'
        unfold joiningL at this; rw [if_neg hn] at this; exact this
      have HI := Lib.hid hI
      have HS := Lib.hid hS
      clear hI hS hn
      go_wp2_with fail
      refine (HI.out _ L1.edges).mono ?_
      rintro e2 w2 ⟨g2, c2, rfl, own2, hb2⟩
      have L2 := L1.step hb2 L1.lt
      have F2 := RowAt.start own2
      clear hb2 own2 L1
      have c0 := L2.c0
      have c1 := L2.c1
      go_wp2_with fail
      refine (HS.out _ L2.edges).mono ?_
      rintro e3 w3 ⟨g3, c3, rfl, own3, hb3⟩
      have L3 := L2.step hb3 L2.lt
      have F3 := F2.next hb3
      clear hb3 L2 F2 c0 c1
      go_wp2_with fail
      refine (sameInts_self _ _ _ _ _ _ _ F3.ints own3.ints rfl (by simp)).mono ?_
      rintro e4 w4 ⟨rfl, hb4⟩
      have L4 := L3.step hb4 L3.lt
      clear hb4 L3 F3 own3
      go_wp2_with fail
      refine (alive_any _).mono ?_
      rintro e6 w6 ⟨rfl, hb6⟩
      have L6 := L4.step hb6 L4.lt
      go_wp2_with fail
      go_returns
      exact ⟨rfl, HB.out.trans (L6.below.mono s1)⟩

namespace fnJoiningCounts
open Go.ChangeShapes Go.WideShapes Go.ChangeAt Go.RowKit Go.Deep Go.Joins
set_option linter.unusedVariables false
set_option maxRecDepth 100000 in
theorem lifted (os : Os) (started : os.Started) (H : Type) (enc : TypeId × Value → H) :
    ReturnsInHanded {} Try.checked os 3 .any (Rows.fnJoiningCountsSpec.pre6 enc Try.prog Try.f3 Rows.fnJoiningCountsRow.domain false) (Rows.fnJoiningCountsSpec.post enc Try.prog Try.f3 false true false false) := by
  refine returnsInHanded_of_change (C := Try.checked) own started (by kernel_rfl) Try.func3
    (ChangeSpec.witness6 (enc := enc) (C := Try.checked) false ⟨#[], #[.slice none 0 0], []⟩ 8 (by kernel_rfl) (by kernel_rfl) (by kernel_rfl) (by kernel_rfl)) ?_
  intro W base args ds gs before hval0 hW hcnd _
  have hval : ∀ (j : Nat) t v, Try.f3.params[j]? = some t → args[j]? = some v → Value.okWide Try.prog W .any base t v := hval0
  have hW' := hW
  obtain ⟨p, q, hA0, hV, rfl, hfz, hnd⟩ := hW
  have hA : DataW.TrodAll enc Try.prog W 0 (fun _ => true) true Try.f3.params.toList args.toList ds p := hA0
  rw [Try.params3] at hA hval
  obtain ⟨v0, vs0, d0, ds0, p0, q0, hargs, rfl, rfl, h0, r0⟩ := trodAll_cons hA
  obtain ⟨rfl, rfl, rfl⟩ := trodAll_nil r0
  obtain rfl : args = #[v0] := by cases args; simp_all
  obtain ⟨rfl, rfl⟩ := trodVars_none hV
  have k0 := h0
  have lt0 : ∀ x ∈ p0, x.block < W.heap.size := by obtain ⟨m, hm⟩ := k0; exact DataW.trod_lt m _ _ _ hm
  obtain ⟨A0, c0, bs0, rfl, hb0, hl0⟩ := open_bytes (hval 0 22 v0 rfl rfl) h0
  clear hA0 hval0
  refine (joiningCounts_law A0 c0 bs0 W hb0 hl0).mono fun e W' ⟨he, bel⟩ => ?_
  subst he
  exact ⟨_, rfl, _, _, _, [], _, [], hW', trodAll_mk1 (shut_bool Try.underlying4 _), (trodAll_cons_mk (Below.trod laidOut (by kernel_rfl) (of_decide_eq_true (by kernel_rfl)) k0 bel lt0) trodAll_mk0), rfl, bel.frame _, fun h => by cases h⟩

theorem holds : Rows.FnJoiningCountsSaid :=
  OpenClaim.holds_of_wide 3 Try.f3 rfl rfl rfl rfl rfl rfl rfl ⟨rfl, rfl, rfl, rfl, rfl⟩ rfl rfl rfl rfl rfl (by kernel_rfl) Try.func3 (by kernel_rfl)
    (of_decide_eq_true (by kernel_rfl)) (by unfold Func.isWrapper; first | (rw [if_pos (by decide +kernel)]; kernel_rfl) | (rw [if_neg (by decide +kernel)]; exact ⟨rfl, rfl⟩))
    (fun os started H enc _ => lifted os started H enc)
end fnJoiningCounts

end Go.Proofs.Ytfflfinhhdhnkaa
