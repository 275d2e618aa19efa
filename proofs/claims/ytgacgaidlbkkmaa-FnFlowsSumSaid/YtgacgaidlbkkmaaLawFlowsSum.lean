/- The law FnFlowsSum holds of every code: the program answers as the reference does; and for each edge of a net of three nodes or more that alone has its ends, the sum is that of the net with its ends made one, less that without it. -/
import Derived.Test.YtgacgaidlbkkmaaBytes
import Derived.Test.YtgacgaidlbkkmaaDraw10
import Derived.Test.YtgacgaidlbkkmaaImpl10a
import Derived.Test.YtgacgaidlbkkmaaSplit10
import Derived.Test.YtgacgaidlbkkmaaObj
namespace Go.Proofs.Ytgacgaidlbkkmaa
open Go.RowKit
set_option maxRecDepth 100000

theorem flowSum_tut {n : Int} {es : List (Int × Int)} (hn : netOkB n es = true) (h6 : es.length ≤ 6) (x : Int) : sumS (flowT n es x) (2 ^ es.length) = tut (flowLeaf x (endsL es).length) (endsL es) (fun x => x) 0 0 := by
  rw [← states_tut _ _ _ _ _ (by rw [endsL_length]; omega), endsL_length]
  refine sumS_congr _ fun s hs => ?_
  unfold flowT flowLeaf
  have e : piecesB n es s = cnt (repL (endsL es) (fun i => s.testBit i) (fun x => x)) n.toNat := by unfold piecesB pcs; rw [rep_ends]; rfl
  have h := rankL_cnt (endsL es) (fun i => s.testBit i) (fun x => x) (endsL_ok hn) (good_id _)
  rw [cnt_id fun _ => rfl] at h
  obtain ⟨k, hk, -⟩ := flow_exp hn h6 hs
  rw [Nat.zero_add, Nat.zero_add, show pop s + piecesB n es s - n.toNat = pop s - rankL (endsL es) (fun i => s.testBit i) (fun x => x) by omega]
theorem flowSumI_tut {n : Int} {es : List (Int × Int)} {x : Int} (h : flowOkB n es x = true) : flowSumI n es x = tut (flowLeaf x (endsL es).length) (endsL es) (fun x => x) 0 0 := by
  have h2 : netOkB n es = true ∧ es.length ≤ 6 ∧ 1 ≤ x ∧ x ≤ 4 := by simpa [flowOkB] using h
  unfold flowSumI
  rw [if_pos h]
  exact flowSum_tut h2.1 h2.2.1 x
theorem flowSum_bound (n : Int) (es : List (Int × Int)) {x : Int} (h : flowOkB n es x = true) : -2097152 ≤ flowSumI n es x ∧ flowSumI n es x ≤ 2097152 := by
  have h2 : netOkB n es = true ∧ es.length ≤ 6 ∧ 1 ≤ x ∧ x ≤ 4 := by simpa [flowOkB] using h
  unfold flowSumI
  rw [if_pos h]
  obtain ⟨P, hP, p1, p2, -, -⟩ := pow_named (show es.length ≤ 9 by omega)
  rw [hP]
  exact sumS_smallP (P := P) (fun k hk => flowT_bound h2.1 h2.2.1 (by omega) h2.2.2.2 (by rw [hP]; exact hk)) (Nat.le_refl _) p2
theorem away_net {n : Int} {es : List (Int × Int)} {k : Nat} (hn : netOkB n es = true) (hk : k < es.length) : netOkB n (es.take k ++ es.drop (k + 1)) = true ∧ (es.take k ++ es.drop (k + 1)).length + 1 = es.length := by
  obtain ⟨⟨n2, n6⟩, h9, hev⟩ := netOkB_iff.1 hn
  have hl : (es.take k ++ es.drop (k + 1)).length + 1 = es.length := by simp; omega
  refine ⟨netOkB_iff.2 ⟨⟨n2, n6⟩, by omega, fun e he => hev e ?_⟩, hl⟩
  rw [List.mem_append] at he
  rcases he with he | he
  · exact List.mem_of_mem_take he
  · exact List.mem_of_mem_drop he
/-- What the law asks of each edge. -/
theorem flow_round {n : Int} {es : List (Int × Int)} {x : Int} (hok : flowOkB n es x = true) {k : Nat} (hk : k < es.length) (h3 : 3 ≤ n) :
    ∃ (le me : List (Int × Int)) (lf a b : Int), wN n es k = n ∧ wE n es k = le ∧ atOkB n es k = true ∧ mN n es k = n - 1 ∧ mE n es k = me ∧ mL n es k = lf ∧ mOk n es k = true ∧ le.length ≤ 1048576 ∧ me.length ≤ 1048576 ∧
      flowSumI n le x = a ∧ flowOkB n le x = true ∧ flowSumI (n - 1) me x = b ∧ flowOkB (n - 1) me x = true ∧ ((lf == 0) = true → IntKind.i64.wrap (b - a) = flowSumI n es x) ∧ (-2097152 ≤ a ∧ a ≤ 2097152) ∧ (-2097152 ≤ b ∧ b ≤ 2097152) := by
  have h2 : netOkB n es = true ∧ es.length ≤ 6 ∧ 1 ≤ x ∧ x ≤ 4 := by simpa [flowOkB] using hok
  obtain ⟨hn, h6, hx⟩ := h2
  have hat : atOkB n es k = true := by simp [atOkB, hn, hk]
  have hmo : mOk n es k = true := by simp [mOk, hat, h3]
  have hgd : es.getD (k : Int).toNat (0, 0) = es[k] := by simp [List.getD, hk]
  obtain ⟨hln, hll⟩ := away_net hn hk
  obtain ⟨hmn, hml, hc1, hc9, -⟩ := made_facts hn h3 hk
  have hlo : flowOkB n (es.take k ++ es.drop (k + 1)) x = true := by simp only [flowOkB, hln, Bool.true_and, Bool.and_eq_true, decide_eq_true_eq]; omega
  have hmo2 : flowOkB (n - 1) (madeL es[k] es) x = true := by simp only [flowOkB, hmn, Bool.true_and, Bool.and_eq_true, decide_eq_true_eq]; omega
  have hb := flowSum_bound n es hok
  have hb1 := flowSum_bound _ _ hlo
  have hb2 := flowSum_bound _ _ hmo2
  refine ⟨_, _, _, _, _, if_pos hat, if_pos hat, hat, if_pos hmo, if_pos hmo, if_pos hmo, hmo, ?_, ?_, rfl, ?_, rfl, ?_, ?_, ?_, ?_⟩
  · rw [Int.toNat_natCast]; omega
  · rw [hgd]; omega
  · rw [Int.toNat_natCast]; exact hlo
  · rw [hgd]; exact hmo2
  · rw [hgd, Int.toNat_natCast]
    intro hlf
    have hone : es.countP (fun e => eqEB e es[k]) = 1 := by have := beq_iff_eq.1 hlf; omega
    obtain ⟨l1, l2, g, e1, e2, hed, hg, e3⟩ := net_split hn h3 hk
    have e3 := e3 hone
    have key : flowSumI (n - 1) (madeL es[k] es) x - flowSumI n (es.take k ++ es.drop (k + 1)) x = flowSumI n es x := by
      rw [flowSumI_tut hok, flowSumI_tut hlo, flowSumI_tut hmo2, e1, e2, e3, flow_split x hg hed]
    rw [key]; exact IntWalk.i64_in _ (by omega)
  · rw [Int.toNat_natCast]; exact hb1
  · rw [hgd]; exact hb2

set_option maxHeartbeats 8000000 in
theorem flowsSum_law (A : Option Addr) (cap l : Nat) (w : World) (hb : BytesIn w w.heap.size A l) (hc : l ≤ cap) :
    Calls Try.prog 8 #[.slice A l cap] w fun e w' => e = .returned (.bool true) ∧ Below w.heap.size w w' := by
  by_cases hbig : 1048576 < l
  · go_enter Try.func8, Try.ntmps8
    go_wp2
    go_returns
    exact ⟨rfl, Below.refl _ _⟩
  · have hl : l ≤ 1048576 := by omega
    clear hbig
    go_enter Try.func8, Try.ntmps8
    go_wp2_with fail
    refine (drawFlowsSum_any _ _ _ _ hb hl hc).mono ?_
    rintro e1 w1 ⟨n, A1, c, es, x, rfl, ed, n1, n7, hle, hcap, m0, m1, hb1⟩
    have L1 := ArgNet.start (cap := c) (n := n) 25 (ed.edges (Nat.le_refl _))
    have HB := Lib.hid hb1
    have hle' : es.length ≤ 1048576 := by omega
    have s1 := hb1.size
    clear ed hb hb1
    have HI : Hid (∀ u, EdgesIn u u.heap.size A1 es → Calls Try.prog 35 #[.agg #[.int .i64 n, .slice A1 es.length c], .int .i64 x] u fun e w' => e = .returned (.tuple #[.int .i64 (flowSumI n es x), .bool (flowOkB n es x)]) ∧ Below u.heap.size u w') := fun u h => flowsSum_any n x A1 c es u h hle'
    have HS : Hid (∀ u, EdgesIn u u.heap.size A1 es → Calls Try.prog 38 #[.agg #[.int .i64 n, .slice A1 es.length c], .int .i64 x] u fun e w' => e = .returned (.tuple #[.int .i64 (flowSumI n es x), .bool (flowOkB n es x)]) ∧ Below u.heap.size u w') := fun u h => specFlowsSum_any n x A1 c es u h hle'
    have HFL : Hid (∀ (n : Int) (A : Option Addr) (c : Nat) (es : List (Int × Int)) (u : World), es.length ≤ 1048576 → EdgesIn u u.heap.size A es → Calls Try.prog 35 #[.agg #[.int .i64 n, .slice A es.length c], .int .i64 x] u fun e w' => e = .returned (.tuple #[.int .i64 (flowSumI n es x), .bool (flowOkB n es x)]) ∧ Below u.heap.size u w') := fun n A c es u h1 h => flowsSum_any n x A c es u h h1
    cases hok : flowOkB n es x with
    | false =>
      have hv : flowSumI n es x = 0 := if_neg (by rw [hok]; simp)
      rw [hok, hv] at HI HS
      have c0 := L1.c0
      have c1 := L1.c1
      go_wp2_with fail
      refine (HI.out _ L1.edges).mono ?_
      rintro e2 w2 ⟨rfl, hb2⟩
      have L2 := L1.step hb2 L1.lt
      clear hb2 L1 c0 c1
      have c0 := L2.c0
      have c1 := L2.c1
      go_wp2_with fail
      refine (HS.out _ L2.edges).mono ?_
      rintro e3 w3 ⟨rfl, hb3⟩
      have L3 := L2.step hb3 L2.lt
      clear hb3 L2 c0 c1
      have c0 := L3.c0
      have c1 := L3.c1
      clear c0 c1
      go_wp2_with fail
      refine (alive_any _).mono ?_
      rintro e4 w4 ⟨rfl, hb4⟩
      have L4 := L3.step hb4 L3.lt
      go_wp2_with fail
      go_returns
      exact ⟨rfl, HB.out.trans (L4.below.mono s1)⟩
    | true =>
      have HW : Hid (∀ (k : Nat) (u : World), EdgesIn u u.heap.size A1 es → Calls Try.prog 20 #[.agg #[.int .i64 n, .slice A1 es.length c], .int .i64 k] u (MadeNetB u (wN n es k) (wE n es k) (atOkB n es k))) := fun k u h => withoutEdge_any n k A1 c es u h hle' hcap
      have HM : Hid (∀ (k : Nat) (u : World), EdgesIn u u.heap.size A1 es → ∀ n' es' l b, mN n es k = n' ∧ mE n es k = es' ∧ mL n es k = l ∧ mOk n es k = b → Calls Try.prog 21 #[.agg #[.int .i64 n, .slice A1 es.length c], .int .i64 k] u (GotMade u n' es' l b)) := fun k u h n' es' l b hh => madeOne_is n k A1 c es u h hle' n' es' l b hh
      have HR : Hid (∀ k, k < es.length → 3 ≤ n → _) := fun k hk h3 => flow_round hok hk h3
      rw [hok] at HI HS
      generalize flowSumI n es x = Z at *
      have c0 := L1.c0
      have c1 := L1.c1
      clear hok
      go_wp2_with fail
      refine (HI.out _ L1.edges).mono ?_
      rintro e2 w2 ⟨rfl, hb2⟩
      have L2 := L1.step hb2 L1.lt
      clear hb2 L1 c0 c1
      have c0 := L2.c0
      have c1 := L2.c1
      go_wp2_with fail
      refine (HS.out _ L2.edges).mono ?_
      rintro e3 w3 ⟨rfl, hb3⟩
      have L3 := L2.step hb3 L2.lt
      clear hb3 L2 c0 c1
      have c0 := L3.c0
      have c1 := L3.c1
      go_wp2_with fail
      go_loopw [9] (fun i wr => ∃ k : Nat, k ≤ es.length ∧ i = .int .i64 (k : Nat) ∧ ArgNet w1 wr n A1 c es) (fun i _ => es.length - (intOf i).toNat)
      case atStart => exact ⟨0, by omega, rfl, L3⟩
      case round =>
        clear L3 c0 c1
        obtain ⟨k, hk, rfl, L⟩ := hrel
        have c0 := L.c0
        have c1 := L.c1
        by_cases hkl : k < es.length
        · by_cases h3 : 3 ≤ n
          · obtain ⟨le, me, lf, a, b, r1, r2, r3, r4, r5, r6, r7, r8, r9, r10, r11, r12, r13, r14, ra, rb⟩ := HR.out k hkl h3
            have HW4 := Lib.hid (HW.out k)
            rw [r1, r2, r3] at HW4
            have HM4 := Lib.hid (fun u h => HM.out k u h (n - 1) me lf true ⟨r4, r5, r6, r7⟩)
            have HFA := Lib.hid (fun A c u => HFL.out n A c le u r8)
            have HFB := Lib.hid (fun A c u => HFL.out (n - 1) A c me u r9)
            rw [r10, r11] at HFA
            rw [r12, r13] at HFB
            have wz : IntKind.i64.wrap (b - a) = b - a := IntWalk.i64_in _ (by omega)
            have HZ : Hid ((lf == 0) = true → b - a = Z) := fun h => by rw [← wz]; exact r14 h
            clear r1 r2 r3 r4 r5 r6 r7 r8 r9 r10 r11 r12 r13 r14 ra rb
            go_wp2_with fail
            refine (HW4.out _ L.edges).mono ?_
            rintro e4 w4 ⟨A4, k4, rfl, own4, hb4⟩
            have L4 := L.step hb4 L.lt
            have X5 := NetAt.start (n := n) 25 own4
            have hbx := (Below.refl w4.heap.size w4).alloc (Nat.le_refl _) (.cells #[.int .i64 n, .slice A4 le.length k4] 25)
            have L5 := L4.step hbx L4.lt
            clear hb4 L c0 c1 own4 hbx
            have c0 := L4.c0
            have c1 := L4.c1
            have lw := L4.lt
            go_wp2_with fail
            clear c0 c1 lw L4
            obtain ⟨W5, hW5⟩ : ∃ W5, W5 = w4.alloc (.cells #[.int .i64 n, .slice A4 le.length k4] 25) := ⟨_, rfl⟩
            rw [← hW5] at L5 X5 ⊢
            clear hW5
            generalize w4.heap.size = g4 at *
            refine (HM4.out _ L5.edges).mono ?_
            rintro e6 w6 ⟨A6, k6, rfl, own6, hb6⟩
            have L6 := L5.step hb6 L5.lt
            have X6 := X5.step hb6 X5.lt
            have Y7 := NetAt.start (n := n - 1) 25 own6
            have hbx := (Below.refl w6.heap.size w6).alloc (Nat.le_refl _) (.cells #[.int .i64 (n - 1), .slice A6 me.length k6] 25)
            have L7 := L6.step hbx L6.lt
            have X7 := X6.step hbx X6.lt
            clear hb6 L5 X5 own6 hbx
            have c0 := L6.c0
            have c1 := L6.c1
            have lw := L6.lt
            have d0 := X6.c0
            have d1 := X6.c1
            have dl := X6.lt
            go_wp2_with fail
            clear c0 c1 lw d0 d1 dl L6 X6
            obtain ⟨W7, hW7⟩ : ∃ W7, W7 = w6.alloc (.cells #[.int .i64 (n - 1), .slice A6 me.length k6] 25) := ⟨_, rfl⟩
            rw [← hW7] at L7 X7 Y7 ⊢
            clear hW7
            generalize w6.heap.size = g6 at *
            refine (HFA.out _ _ _ X7.edges).mono ?_
            rintro e8 w8 ⟨rfl, hb8⟩
            have L8 := L7.step hb8 L7.lt
            have Y8 := Y7.step hb8 Y7.lt
            clear hb8 L7 X7 Y7
            have d0 := Y8.c0
            have d1 := Y8.c1
            go_wp2_with fail
            refine (HFB.out _ _ _ Y8.edges).mono ?_
            rintro e9 w9 ⟨rfl, hb9⟩
            have L9 := L8.step hb9 L8.lt
            clear hb9 L8 Y8 d0 d1
            cases hlf : (lf == 0) with
            | false =>
              have hlf2 : ¬ lf = 0 := beq_eq_false_iff_ne.1 hlf
              go_wp2_with fail
              go_roundw
              case rel => exact ⟨k + 1, by omega, by go_num, L9⟩
              case measure => simp [intOf]; omega
            | true =>
              have hzz := HZ.out hlf
              obtain rfl : lf = 0 := beq_iff_eq.1 hlf
              rw [hzz] at wz
              subst hzz
              clear hlf
              go_wp2_with fail
              go_roundw
              case rel => exact ⟨k + 1, by omega, by go_num, L9⟩
              case measure => simp [intOf]; omega
          · have h3n : ¬ (3 : Int) ≤ n := h3
            go_wp2_with fail
            go_returns
            exact ⟨by first | rfl | simp, HB.out.trans (L.below.mono s1)⟩
        · obtain rfl : k = es.length := by omega
          go_wp2_with fail
          go_returns
          exact ⟨by first | rfl | simp, HB.out.trans (L.below.mono s1)⟩

namespace fnFlowsSum
open Go.ChangeShapes Go.WideShapes Go.ChangeAt Go.RowKit Go.Deep Go.Joins
set_option linter.unusedVariables false
set_option maxRecDepth 100000 in
theorem lifted (os : Os) (started : os.Started) (H : Type) (enc : TypeId × Value → H) :
    ReturnsInHanded {} Try.checked os 8 .any (Rows.fnFlowsSumSpec.pre6 enc Try.prog Try.f8 Rows.fnFlowsSumRow.domain false) (Rows.fnFlowsSumSpec.post enc Try.prog Try.f8 false true false false) := by
  refine returnsInHanded_of_change (C := Try.checked) own started (by kernel_rfl) Try.func8
    (ChangeSpec.witness6 (enc := enc) (C := Try.checked) false ⟨#[], #[.slice none 0 0], []⟩ 8 (by kernel_rfl) (by kernel_rfl) (by kernel_rfl) (by kernel_rfl)) ?_
  intro W base args ds gs before hval0 hW hcnd _
  have hval : ∀ (j : Nat) t v, Try.f8.params[j]? = some t → args[j]? = some v → Value.okWide Try.prog W .any base t v := hval0
  have hW' := hW
  obtain ⟨p, q, hA0, hV, rfl, hfz, hnd⟩ := hW
  have hA : DataW.TrodAll enc Try.prog W 0 (fun _ => true) true Try.f8.params.toList args.toList ds p := hA0
  rw [Try.params8] at hA hval
  obtain ⟨v0, vs0, d0, ds0, p0, q0, hargs, rfl, rfl, h0, r0⟩ := trodAll_cons hA
  obtain ⟨rfl, rfl, rfl⟩ := trodAll_nil r0
  obtain rfl : args = #[v0] := by cases args; simp_all
  obtain ⟨rfl, rfl⟩ := trodVars_none hV
  have k0 := h0
  have lt0 : ∀ x ∈ p0, x.block < W.heap.size := by obtain ⟨m, hm⟩ := k0; exact DataW.trod_lt m _ _ _ hm
  obtain ⟨A0, c0, bs0, rfl, hb0, hl0⟩ := open_bytes (hval 0 22 v0 rfl rfl) h0
  clear hA0 hval0
  refine (flowsSum_law A0 c0 bs0 W hb0 hl0).mono fun e W' ⟨he, bel⟩ => ?_
  subst he
  exact ⟨_, rfl, _, _, _, [], _, [], hW', trodAll_mk1 (shut_bool Try.underlying4 _), (trodAll_cons_mk (Below.trod laidOut (by kernel_rfl) (of_decide_eq_true (by kernel_rfl)) k0 bel lt0) trodAll_mk0), rfl, bel.frame _, fun h => by cases h⟩

theorem holds : Rows.FnFlowsSumSaid :=
  OpenClaim.holds_of_wide 8 Try.f8 rfl rfl rfl rfl rfl rfl rfl ⟨rfl, rfl, rfl, rfl, rfl⟩ rfl rfl rfl rfl rfl (by kernel_rfl) Try.func8 (by kernel_rfl)
    (of_decide_eq_true (by kernel_rfl)) (by unfold Func.isWrapper; first | (rw [if_pos (by decide +kernel)]; kernel_rfl) | (rw [if_neg (by decide +kernel)]; exact ⟨rfl, rfl⟩))
    (fun os started H enc _ => lifted os started H enc)
end fnFlowsSum
end Go.Proofs.Ytgacgaidlbkkmaa
