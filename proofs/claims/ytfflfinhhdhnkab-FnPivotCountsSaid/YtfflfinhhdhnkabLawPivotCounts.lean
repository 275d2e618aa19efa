/- The law FnPivotCounts holds of every code: each count is that of states with the edge that join both, less that of states without it; and for both nodes exchanged it is the same. -/
import Derived.Test.YtfflfinhhdhnkabBytes
import Derived.Test.YtfflfinhhdhnkabDraw6
import Derived.Test.YtfflfinhhdhnkabSpec6
import Derived.Test.YtfflfinhhdhnkabImpl6
import Derived.Test.YtfflfinhhdhnkabImplCnt
import Derived.Test.YtfflfinhhdhnkabWithout
import Derived.Test.YtfflfinhhdhnkabObj
namespace Go.Proofs.Ytfflfinhhdhnkab
open Go.RowKit
set_option maxRecDepth 100000

theorem wrap_nat {x : Nat} (h : x ≤ 1048576) : IntKind.i64.wrap (x : Int) = (x : Int) ∧ wrap64 (x : Int) = (x : Int) := by
  refine ⟨IntWalk.i64_in _ (by omega), ?_⟩
  unfold wrap64; omega
theorem wrap_sub {x y : Nat} (hx : x ≤ 1048576) (hy : y ≤ 1048576) : IntKind.i64.wrap ((x : Int) - (y : Int)) = (x : Int) - (y : Int) ∧ wrap64 ((x : Int) - (y : Int)) = (x : Int) - (y : Int) := by
  refine ⟨IntWalk.i64_in _ (by omega), ?_⟩
  unfold wrap64; omega
theorem joinC_past (es : List (Int × Int)) (a b : Nat) : joinC es a b (es.length + 1) = 0 := by
  have h1 := joinC_le es a b (es.length + 1)
  have h2 := chs_more es.length (es.length + 1) (by omega)
  omega
/-- The net without the edge of a place. -/
theorem piv_less {n : Int} {es : List (Int × Int)} {a b at_ : Int} (h : pivOkB n es a b at_ = true) :
    ∃ le : List (Int × Int), wN n es at_ = n ∧ wE n es at_ = le ∧ atOkB n es at_ = true ∧ joinOkB n le a b = true ∧ le.length + 1 = es.length ∧
      ∀ k, k < es.length → (pivC es a.toNat b.toNat at_.toNat k : Int) = (joinC es a.toNat b.toNat (k + 1) : Nat) - (if k + 1 < es.length then (joinC le a.toNat b.toNat (k + 1) : Int) else 0) - (joinC le a.toNat b.toNat k : Nat) := by
  obtain ⟨hn, h9, ha, hb, hab, hat, e⟩ := piv_parts h
  obtain ⟨hj, a0, a1⟩ := pivOkB_iff.1 h
  obtain ⟨hn', hl⟩ := less_netOk hn hat
  have f3 : atOkB n es at_ = true := by
    simp only [atOkB, Bool.and_eq_true, decide_eq_true_eq]
    exact ⟨hn, by omega, by omega⟩
  obtain ⟨-, hA, hB, hne⟩ := joinOkB_iff.1 hj
  refine ⟨_, if_pos f3, if_pos f3, f3, joinOkB_iff.2 ⟨hn', hA, hB, hne⟩, hl, fun k hk => ?_⟩
  have hs := pivC_split hn ha hb hat k
  by_cases h1 : k + 1 < es.length
  · rw [if_pos h1]; omega
  · rw [if_neg h1]
    have h2 : k = (es.take at_.toNat ++ es.drop (at_.toNat + 1)).length := by omega
    have h3 := joinC_past (es.take at_.toNat ++ es.drop (at_.toNat + 1)) a.toNat b.toNat
    rw [← h2] at h3
    omega

set_option maxHeartbeats 4000000 in
theorem pivotCounts_law (A : Option Addr) (cap l : Nat) (w : World) (hb : BytesIn w w.heap.size A l) (hc : l ≤ cap) :
    Calls Try.prog 7 #[.slice A l cap] w fun e w' => e = .returned (.bool true) ∧ Below w.heap.size w w' := by
  by_cases hbig : 1048576 < l
  · go_enter Try.func7, Try.ntmps7
    go_wp2
    go_returns
    exact ⟨rfl, Below.refl _ _⟩
  · have hl : l ≤ 1048576 := by omega
    clear hbig
    go_enter Try.func7, Try.ntmps7
    go_wp2_with fail
    refine (drawPivotCounts_any _ _ _ _ hb hl hc).mono ?_
    rintro e1 w1 ⟨n, A1, c, es, a, b, s, rfl, own, n1, n7, hle, a1, a2, b1, b2, t1, t2, hb1⟩
    have L1 := ArgNet.start (cap := c) (n := n) 25 own.edges
    have hcap := own.cap
    have HB := Lib.hid hb1
    have hle' : es.length ≤ 1048576 := by omega
    have s1 := hb1.size
    clear own hb hb1
    by_cases hn : pivOkB n es a b s = true
    · obtain ⟨le, f1, f2, f3, hjl, hll, hsplit⟩ := piv_less hn
      have hj := (pivOkB_iff.1 hn).1
      have h9 := joinOk_nine hj
      have hpos : 1 ≤ es.length := by omega
      have hlP := pivL_length hn
      have hlF : (joiningL n es a b).length = es.length + 1 := by unfold joiningL; rw [if_pos hj, rowL_length]
      have hlG : (joiningL n le a b).length = es.length := by unfold joiningL; rw [if_pos hjl, rowL_length, hll]
      have hF : ∀ k, k < es.length + 1 → (joiningL n es a b).getD k 0 = (joinC es a.toNat b.toNat k : Nat) := fun k hk => by unfold joiningL; rw [if_pos hj, rowL_getD _ hk]
      have hG : ∀ k, k < es.length → (joiningL n le a b).getD k 0 = (joinC le a.toNat b.toNat k : Nat) := fun k hk => by unfold joiningL; rw [if_pos hjl, rowL_getD _ (by omega)]
      have hP : ∀ k, k < es.length → (pivL n es a b s).getD k 0 = (joinC es a.toNat b.toNat (k + 1) : Nat) - (if k + 1 < es.length then (joinC le a.toNat b.toNat (k + 1) : Int) else 0) - (joinC le a.toNat b.toNat k : Nat) := fun k hk => by rw [pivL_get hn hk, hsplit k hk]
      have fc : ∀ k, joinC es a.toNat b.toNat k ≤ 1048576 := fun k => Nat.le_trans (joinC_le es _ _ k) (chs_bound hle k)
      have gc : ∀ k, joinC le a.toNat b.toNat k ≤ 1048576 := fun k => Nat.le_trans (joinC_le le _ _ k) (chs_bound (by omega) k)
      have hI : ∀ u, EdgesIn u u.heap.size A1 es → Calls Try.prog 23 #[.agg #[.int .i64 n, .slice A1 es.length c], .int .i64 a, .int .i64 b, .int .i64 s] u (GotAs u es.length (pivL n es a b s)) := fun u h => (pivotCounts_any n a b s A1 c es u h hle').mono fun _ _ h => h.gotAs hlP hpos
      have hX : ∀ u, EdgesIn u u.heap.size A1 es → Calls Try.prog 23 #[.agg #[.int .i64 n, .slice A1 es.length c], .int .i64 b, .int .i64 a, .int .i64 s] u (GotAs u es.length (pivL n es a b s)) := fun u h => by
        rw [← pivL_swap n es a b s] at hlP ⊢
        exact (pivotCounts_any n b a s A1 c es u h hle').mono fun _ _ h => h.gotAs hlP hpos
      have hS : ∀ u, EdgesIn u u.heap.size A1 es → Calls Try.prog 25 #[.agg #[.int .i64 n, .slice A1 es.length c], .int .i64 a, .int .i64 b, .int .i64 s] u (GotAs u es.length (pivL n es a b s)) := fun u h => (specPivotCounts_any n a b s A1 c es u h hle').mono fun _ _ h => h.gotAs hlP hpos
      have hJ : ∀ u, EdgesIn u u.heap.size A1 es → Calls Try.prog 26 #[.agg #[.int .i64 n, .slice A1 es.length c], .int .i64 a, .int .i64 b] u (GotRow u es.length (joiningL n es a b)) := fun u h => (joiningCounts_any n a b A1 c es u h hle').mono fun _ _ => GotInts.row hlF
      have hK : ∀ (A : Option Addr) (c : Nat) (u : World), EdgesIn u u.heap.size A le → Calls Try.prog 26 #[.agg #[.int .i64 n, .slice A le.length c], .int .i64 a, .int .i64 b] u (GotAs u es.length (joiningL n le a b)) := fun A c u h => (joiningCounts_any n a b A c le u h (by omega)).mono fun _ _ h => h.gotAs hlG hpos
      have hL : ∀ u, EdgesIn u u.heap.size A1 es → Calls Try.prog 17 #[.agg #[.int .i64 n, .slice A1 es.length c], .int .i64 s] u (MadeNetB u n le true) := fun u h => by
        have := withoutEdge_any n s A1 c es u h hle' hcap
        rw [f1, f2, f3] at this; exact this
      generalize joiningL n es a b = fs at *
      generalize joiningL n le a b = gs at *
      generalize pivL n es a b s = ps at *
      obtain ⟨J, hJe⟩ : ∃ J : Nat → Nat, joinC es a.toNat b.toNat = J := ⟨_, rfl⟩
      obtain ⟨G, hGe⟩ : ∃ G : Nat → Nat, joinC le a.toNat b.toNat = G := ⟨_, rfl⟩
      rw [hJe] at hF hP fc
      rw [hGe] at hG hP gc
      have HLP := Lib.hid hlP
      have HI := Lib.hid hI
      have HX := Lib.hid hX
      have HS := Lib.hid hS
      have HJ := Lib.hid hJ
      have HK := Lib.hid hK
      have HL := Lib.hid hL
      have HFv := Lib.hid hF
      have HGv := Lib.hid hG
      have HPv := Lib.hid hP
      have HFC := Lib.hid fc
      have HGC := Lib.hid gc
      clear hlF hlG hlP hI hS hX hJ hK hL hF hG hP fc gc hn hj hjl hll hsplit hJe hGe f1 f2 f3
      have c0 := L1.c0
      have c1 := L1.c1
      go_wp2_with fail
      refine (HI.out _ L1.edges).mono ?_
      rintro e2 w2 ⟨g2, c2, rfl, own2, hb2⟩
      have L2 := L1.step hb2 L1.lt
      have F2 := RowAt.start (OwnI.more own2 (show w1.heap.size ≤ _ by simp))
      clear hb2 own2 L1 c0 c1
      have c0 := L2.c0
      have c1 := L2.c1
      go_wp2_with fail
      refine (HS.out _ L2.edges).mono ?_
      rintro e3 w3 ⟨g3, c3, rfl, own3, hb3⟩
      have L3 := L2.step hb3 L2.lt
      have F3 := F2.next hb3
      clear hb3 L2 F2 c0 c1
      go_wp2_with fail
      refine (sameInts_self _ _ _ _ _ _ _ F3.ints own3.ints HLP.out (by omega)).mono ?_
      rintro e4 w4 ⟨rfl, hb4⟩
      have L4 := L3.step hb4 L3.lt
      have F4 := F3.next hb4
      clear hb4 L3 F3 own3
      have c0 := L4.c0
      have c1 := L4.c1
      have z0 : ((es.length : Int) == 0) = false := beq_eq_false_iff_ne.2 (by omega)
      have wl1 : IntKind.i64.wrap ((es.length : Int) + 1) = ((es.length + 1 : Nat) : Int) := by rw [IntWalk.i64_in _ (by omega)]; omega
      go_wp2_with fail
      refine (HL.out _ L4.edges).mono ?_
      rintro e5 w5 ⟨A5, k5, rfl, own5, hb5⟩
      have L5 := L4.step hb5 L4.lt
      have F5 := F4.next hb5
      have X6 := NetAt.start (n := n) 25 own5
      have hbx := (Below.refl w5.heap.size w5).alloc (Nat.le_refl _) (.cells #[.int .i64 n, .slice A5 le.length k5] 25)
      have L6 := L5.step hbx L5.lt
      have F6 := F5.next hbx
      clear hb5 L4 F4 c0 c1 own5 hbx F5
      have c0 := L5.c0
      have c1 := L5.c1
      have lw := L5.lt
      obtain ⟨W6, hW6⟩ : ∃ W6, W6 = w5.alloc (.cells #[.int .i64 n, .slice A5 le.length k5] 25) := ⟨_, rfl⟩
      go_wp2_with fail
      rw [← hW6] at L6 F6 X6 ⊢
      clear hW6 c0 c1 lw L5
      refine (HJ.out _ L6.edges).mono ?_
      rintro e7 w7 ⟨g7, c7, rfl, own7, hb7⟩
      have L7 := L6.step hb7 L6.lt
      have F7 := F6.next hb7
      have X7 := X6.step hb7 X6.lt
      have Q7 := RowAt.start own7
      clear hb7 own7 L6 F6 X6
      have c0 := L7.c0
      have c1 := L7.c1
      have x0 := X7.c0
      have x1 := X7.c1
      generalize W6.heap.size = b6 at *
      go_wp2_with fail
      refine (HK.out _ _ _ X7.edges).mono ?_
      rintro e8 w8 ⟨g8, c8, rfl, own8, hb8⟩
      have L8 := L7.step hb8 L7.lt
      have F8 := F7.next hb8
      have Q8 := Q7.next hb8
      have V8 := RowAt.start own8
      clear hb8 own8 L7 F7 X7 Q7 c0 c1 x0 x1
      generalize w8.heap.size = b8 at *
      generalize w7.heap.size = b7 at *
      generalize w2.heap.size = b2' at *
      go_wp2_with fail
      go_loopw [12, 13] (fun t _ wr => ∃ k : Nat, k ≤ es.length ∧ t = .int .i64 (k : Nat) ∧ ArgNet w1 wr n A1 c es ∧ RowAt wr w1.heap.size b2' (.slice (some ⟨g2, 0, none⟩) es.length c2) ps ∧ RowAt wr b6 b7 (.slice (some ⟨g7, 0, none⟩) (es.length + 1) c7) fs ∧ RowAt wr b7 b8 (.slice (some ⟨g8, 0, none⟩) es.length c8) gs) (fun t _ _ => es.length - (intOf t).toNat)
      case atStart => exact ⟨0, by omega, rfl, L8, F8, Q8, V8⟩
      case round =>
        clear L8 F8 Q8 V8
        obtain ⟨k, hk, rfl, L, F, Q, V⟩ := hrel
        by_cases hlt : k < es.length
        · have x1 := F.cell hlt
          have x2 := Q.cell (show k + 1 < es.length + 1 by omega)
          have x3 := V.cell hlt
          rw [HPv.out k hlt] at x1
          rw [HFv.out (k + 1) (by omega)] at x2
          rw [HGv.out k hlt] at x3
          have q1 := HFC.out (k + 1)
          have q2 := HGC.out k
          have q3 := HGC.out (k + 1)
          generalize J (k + 1) = J1 at *
          generalize hg0 : G k = G0 at *
          have wk : IntKind.i64.wrap ((k : Int) + 1) = (k : Int) + 1 := IntWalk.i64_in _ (by omega)
          have i1 : (k : Int) + 1 < (es.length : Int) + 1 := by omega
          have i2 : (k : Int) < (es.length : Int) + 1 := by omega
          have i3 : (0 : Int) ≤ (k : Int) + 1 := by omega
          by_cases h1 : k + 1 < es.length
          · have x4 := V.cell h1
            rw [HGv.out (k + 1) h1] at x4
            rw [if_pos h1] at x1
            generalize G (k + 1) = G1 at *
            have wA : IntKind.i64.wrap ((J1 : Int) - (G1 : Int)) = (J1 : Int) - (G1 : Int) := IntWalk.i64_in _ (by omega)
            have wB : IntKind.i64.wrap ((J1 : Int) - (G1 : Int) - (G0 : Int)) = (J1 : Int) - (G1 : Int) - (G0 : Int) := IntWalk.i64_in _ (by omega)
            have i4 : (k : Int) + 1 < (es.length : Int) := by omega
            have d4 : decide ((k : Int) + 1 < (es.length : Int)) = true := decide_eq_true i4
            clear q1 q2 q3 hg0
            go_wp2_with fail
            go_quiet (fail)
            go_wp2_with fail
            go_roundw
            case rel => exact ⟨k + 1, by omega, by go_num, L.step (belowN (Below.refl _ _) _) L.lt, F.step (belowN (Below.refl _ _) _) F.le, Q.step (belowN (Below.refl _ _) _) Q.le, V.step (belowN (Below.refl _ _) _) V.le⟩
            case measure => simp [intOf]; omega
          · rw [if_neg h1, Int.sub_zero] at x1
            obtain ⟨wA, wA0⟩ := wrap_nat q1
            obtain ⟨wB, wB0⟩ := wrap_sub q1 q2
            have i4 : ¬ (k : Int) + 1 < (es.length : Int) := by omega
            have d4 : decide ((k : Int) + 1 < (es.length : Int)) = false := decide_eq_false i4
            clear q1 q2 q3 hg0
            go_wp2_with fail
            go_quiet (fail)
            go_wp2_with fail
            go_roundw
            case rel => exact ⟨k + 1, by omega, by go_num, L.step (belowN (Below.refl _ _) _) L.lt, F.step (belowN (Below.refl _ _) _) F.le, Q.step (belowN (Below.refl _ _) _) Q.le, V.step (belowN (Below.refl _ _) _) V.le⟩
            case measure => simp [intOf]; omega
        · obtain rfl : k = es.length := by omega
          have c0 := L.c0
          have c1 := L.c1
          clear Q V
          go_wp2_with fail
          refine (HX.out _ L.edges).mono ?_
          rintro e9 w9 ⟨g9, c9, rfl, own9, hb9⟩
          have L9 := L.step hb9 L.lt
          have F9 := F.next hb9
          clear hb9 L F c0 c1
          go_wp2_with fail
          refine (sameInts_self _ _ _ _ _ _ _ own9.ints F9.ints HLP.out (by omega)).mono ?_
          rintro e10 w10 ⟨rfl, hb10⟩
          have L10 := L9.step hb10 L9.lt
          go_wp2_with fail
          go_returns
          exact ⟨rfl, HB.out.trans (L10.below.mono s1)⟩
    · have hz : pivL n es a b s = [] := pivL_not hn
      have hI : ∀ u, EdgesIn u u.heap.size A1 es → Calls Try.prog 23 #[.agg #[.int .i64 n, .slice A1 es.length c], .int .i64 a, .int .i64 b, .int .i64 s] u (GotInts u []) := fun u h => by
        have := pivotCounts_any n a b s A1 c es u h hle'
        rw [hz] at this; exact this
      have hS : ∀ u, EdgesIn u u.heap.size A1 es → Calls Try.prog 25 #[.agg #[.int .i64 n, .slice A1 es.length c], .int .i64 a, .int .i64 b, .int .i64 s] u (GotInts u []) := fun u h => by
        have := specPivotCounts_any n a b s A1 c es u h hle'
        rw [hz] at this; exact this
      have HI := Lib.hid hI
      have HS := Lib.hid hS
      clear hI hS hn hz
      have c0 := L1.c0
      have c1 := L1.c1
      go_wp2_with fail
      refine (HI.out _ L1.edges).mono ?_
      rintro e2 w2 ⟨g2, c2, rfl, own2, hb2⟩
      have L2 := L1.step hb2 L1.lt
      have F2 := RowAt.start own2
      clear hb2 own2 L1 c0 c1
      have c0 := L2.c0
      have c1 := L2.c1
      go_wp2_with fail
      refine (HS.out _ L2.edges).mono ?_
      rintro e3 w3 ⟨g3, c3, rfl, own3, hb3⟩
      have L3 := L2.step hb3 L2.lt
      have F3 := F2.next hb3
      clear hb3 L2 F2 c0 c1
      go_wp2_with fail
      refine (sameInts_self _ _ _ _ _ _ _ F3.ints own3.ints rfl (by simp)).mono ?_
      rintro e4 w4 ⟨rfl, hb4⟩
      have L4 := L3.step hb4 L3.lt
      clear hb4 L3 F3 own3
      go_wp2_with fail
      refine (alive_any _).mono ?_
      rintro e6 w6 ⟨rfl, hb6⟩
      have L6 := L4.step hb6 L4.lt
      go_wp2_with fail
      go_returns
      exact ⟨rfl, HB.out.trans (L6.below.mono s1)⟩

namespace fnPivotCounts
open Go.ChangeShapes Go.WideShapes Go.ChangeAt Go.RowKit Go.Deep Go.Joins
set_option linter.unusedVariables false
set_option maxRecDepth 100000 in
theorem lifted (os : Os) (started : os.Started) (H : Type) (enc : TypeId × Value → H) :
    ReturnsInHanded {} Try.checked os 7 .any (Rows.fnPivotCountsSpec.pre6 enc Try.prog Try.f7 Rows.fnPivotCountsRow.domain false) (Rows.fnPivotCountsSpec.post enc Try.prog Try.f7 false true false false) := by
  refine returnsInHanded_of_change (C := Try.checked) own started (by kernel_rfl) Try.func7
    (ChangeSpec.witness6 (enc := enc) (C := Try.checked) false ⟨#[], #[.slice none 0 0], []⟩ 8 (by kernel_rfl) (by kernel_rfl) (by kernel_rfl) (by kernel_rfl)) ?_
  intro W base args ds gs before hval0 hW hcnd _
  have hval : ∀ (j : Nat) t v, Try.f7.params[j]? = some t → args[j]? = some v → Value.okWide Try.prog W .any base t v := hval0
  have hW' := hW
  obtain ⟨p, q, hA0, hV, rfl, hfz, hnd⟩ := hW
  have hA : DataW.TrodAll enc Try.prog W 0 (fun _ => true) true Try.f7.params.toList args.toList ds p := hA0
  rw [Try.params7] at hA hval
  obtain ⟨v0, vs0, d0, ds0, p0, q0, hargs, rfl, rfl, h0, r0⟩ := trodAll_cons hA
  obtain ⟨rfl, rfl, rfl⟩ := trodAll_nil r0
  obtain rfl : args = #[v0] := by cases args; simp_all
  obtain ⟨rfl, rfl⟩ := trodVars_none hV
  have k0 := h0
  have lt0 : ∀ x ∈ p0, x.block < W.heap.size := by obtain ⟨m, hm⟩ := k0; exact DataW.trod_lt m _ _ _ hm
  obtain ⟨A0, c0, bs0, rfl, hb0, hl0⟩ := open_bytes (hval 0 22 v0 rfl rfl) h0
  clear hA0 hval0
  refine (pivotCounts_law A0 c0 bs0 W hb0 hl0).mono fun e W' ⟨he, bel⟩ => ?_
  subst he
  exact ⟨_, rfl, _, _, _, [], _, [], hW', trodAll_mk1 (shut_bool Try.underlying4 _), (trodAll_cons_mk (Below.trod laidOut (by kernel_rfl) (of_decide_eq_true (by kernel_rfl)) k0 bel lt0) trodAll_mk0), rfl, bel.frame _, fun h => by cases h⟩

theorem holds : Rows.FnPivotCountsSaid :=
  OpenClaim.holds_of_wide 7 Try.f7 rfl rfl rfl rfl rfl rfl rfl ⟨rfl, rfl, rfl, rfl, rfl⟩ rfl rfl rfl rfl rfl (by kernel_rfl) Try.func7 (by kernel_rfl)
    (of_decide_eq_true (by kernel_rfl)) (by unfold Func.isWrapper; first | (rw [if_pos (by decide +kernel)]; kernel_rfl) | (rw [if_neg (by decide +kernel)]; exact ⟨rfl, rfl⟩))
    (fun os started H enc _ => lifted os started H enc)
end fnPivotCounts
end Go.Proofs.Ytfflfinhhdhnkab
