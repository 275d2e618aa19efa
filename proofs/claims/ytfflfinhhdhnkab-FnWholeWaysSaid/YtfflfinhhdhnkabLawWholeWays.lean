/- The law FnWholeWays holds of every code: for each edge of a net of 3 nodes or more that alone has its ends it is that without the edge, times the parts that are left, and that of the net with both ends made one, times the parts; with one part more it is not less; and it is at most all ways. -/
import Derived.Test.YtfflfinhhdhnkabBytes
import Derived.Test.YtfflfinhhdhnkabDraw5
import Derived.Test.YtfflfinhhdhnkabSpec5
import Derived.Test.YtfflfinhhdhnkabImpl5
import Derived.Test.YtfflfinhhdhnkabWithout
import Derived.Test.YtfflfinhhdhnkabSplit
import Derived.Test.YtfflfinhhdhnkabObj
import Derived.Test.YtfflfinhhdhnkabClass
namespace Go.Proofs.Ytfflfinhhdhnkab
open Go.RowKit
set_option maxRecDepth 100000

set_option maxHeartbeats 4000000 in
theorem wholeWays_law (A : Option Addr) (cap l : Nat) (w : World) (hb : BytesIn w w.heap.size A l) (hc : l ≤ cap) :
    Calls Try.prog 4 #[.slice A l cap] w fun e w' => e = .returned (.bool true) ∧ Below w.heap.size w w' := by
  by_cases hbig : 1048576 < l
  · go_enter Try.func4, Try.ntmps4
    go_wp2
    go_returns
    exact ⟨rfl, Below.refl _ _⟩
  · have hl : l ≤ 1048576 := by omega
    clear hbig
    go_enter Try.func4, Try.ntmps4
    go_wp2_with fail
    refine (drawWholeWays_any _ _ _ _ hb hl hc).mono ?_
    rintro e1 w1 ⟨n, A1, c, es, p, m, rfl, own, n1, n7, hle, p0, p1, m0, m1, hb1⟩
    have L1 := ArgNet.start (cap := c) (n := n) 25 own.edges
    have hcap := own.cap
    have HB := Lib.hid hb1
    have hle' : es.length ≤ 1048576 := by omega
    have s1 := hb1.size
    clear own hb hb1
    have HI : Hid (∀ u, EdgesIn u u.heap.size A1 es → Calls Try.prog 15 #[.agg #[.int .i64 n, .slice A1 es.length c], .int .i64 p, .int .i64 m] u fun e w' => e = .returned (.int .i64 (waysI (wholeL n es) p m)) ∧ Below u.heap.size u w') := fun u h => wholeWays_any n p m A1 c es u h hle'
    have HS : Hid (∀ u, EdgesIn u u.heap.size A1 es → Calls Try.prog 16 #[.agg #[.int .i64 n, .slice A1 es.length c], .int .i64 p, .int .i64 m] u fun e w' => e = .returned (.int .i64 (waysI (wholeL n es) p m)) ∧ Below u.heap.size u w') := fun u h => specWholeWays_any n p m A1 c es u h hle'
    by_cases hok : netOkB n es = true ∧ chanceB p m = true
    · obtain ⟨hn, hch⟩ := hok
      obtain ⟨l1, l2, l3⟩ := wholeW_law hn hch
      have hch' := chanceB_iff.1 hch
      have lT := (allI_bound hn (m := m) (by omega)).2
      have HN : Hid (∀ u, EdgesIn u u.heap.size A1 es → Calls Try.prog 15 #[.agg #[.int .i64 n, .slice A1 es.length c], .int .i64 (p + 1), .int .i64 m] u fun e w' => e = .returned (.int .i64 (waysI (wholeL n es) (p + 1) m)) ∧ Below u.heap.size u w') := fun u h => wholeWays_any n (p + 1) m A1 c es u h hle'
      have HT : Hid (∀ u, EdgesIn u u.heap.size A1 es → Calls Try.prog 13 #[.agg #[.int .i64 n, .slice A1 es.length c], .int .i64 m] u fun e w' => e = .returned (.int .i64 (allI n es m)) ∧ Below u.heap.size u w') := fun u h => allWays_any n m A1 c es u h hle'
      have wp1 : IntKind.i64.wrap (p + 1) = p + 1 := IntWalk.i64_in _ (by omega)
      have wmp : IntKind.i64.wrap (m - p) = m - p := IntWalk.i64_in _ (by omega)
      have HSP : Hid (3 ≤ n → ∀ at_ : Nat, at_ < es.length → ∃ (le je : List (Int × Int)) (c0 : Nat) (U1 U2 : Int), wE n es at_ = le ∧ wN n es at_ = n ∧ atOkB n es at_ = true ∧ mE n es at_ = je ∧ mN n es at_ = n - 1 ∧ mL n es at_ = (c0 : Nat) ∧ mOk n es at_ = true ∧
          le.length ≤ 1048576 ∧ je.length ≤ 1048576 ∧ waysI (wholeL n le) p m = U1 ∧ waysI (wholeL (n - 1) je) p m = U2 ∧ (c0 = 0 → U1 * (m - p) + U2 * p = waysI (wholeL n es) p m ∧ 0 ≤ U1 * (m - p) ∧ 0 ≤ U2 * p)) := fun h3 at_ hat => by
        obtain ⟨le, je, c0, f1, f2, f3, f4, f5, f6, f7, hnl, hll, hnj, hlj, -⟩ := split_facts hn h3 hat
        refine ⟨le, je, c0, _, _, f1, f2, f3, f4, f5, f6, f7, by omega, by omega, rfl, rfl, fun h0 => ⟨?_, ?_, ?_⟩⟩
        · have := wholeW_edge hn h3 hat (by rw [f6, h0]; rfl) hch (by rw [f1]; exact hnl) (by rw [f4]; exact hnj)
          rw [f1, f4] at this; exact this
        · exact Int.mul_nonneg (wholeW_law hnl hch).1 (by omega)
        · exact Int.mul_nonneg (wholeW_law hnj hch).1 (by omega)
      generalize waysI (wholeL n es) p m = V at *
      generalize waysI (wholeL n es) (p + 1) m = N at *
      generalize allI n es m = T at *
      clear hn hch hch'
      have d0 : ¬ V < 0 := by omega
      have c0 := L1.c0
      have c1 := L1.c1
      go_wp2_with fail
      refine (HI.out _ L1.edges).mono ?_
      rintro e2 w2 ⟨rfl, hb2⟩
      have L2 := L1.step hb2 L1.lt
      clear hb2 L1 c0 c1
      have c0 := L2.c0
      have c1 := L2.c1
      go_wp2_with fail
      refine (HS.out _ L2.edges).mono ?_
      rintro e3 w3 ⟨rfl, hb3⟩
      have L3 := L2.step hb3 L2.lt
      clear hb3 L2 c0 c1
      go_wp2_with fail
      go_loopw [7] (fun t wr => ∃ at_ : Nat, at_ ≤ es.length ∧ t = .int .i64 (at_ : Nat) ∧ ArgNet w1 wr n A1 c es) (fun t _ => es.length - (intOf t).toNat)
      case atStart => exact ⟨0, by omega, rfl, L3⟩
      case round =>
        clear L3
        obtain ⟨at_, hat, rfl, L⟩ := hrel
        have c0 := L.c0
        have c1 := L.c1
        have lw := L.lt
        by_cases hgo : at_ < es.length ∧ 3 ≤ n
        · obtain ⟨hlt, h3⟩ := hgo
          have dl : decide ((at_ : Int) < (es.length : Int)) = true := by simp; omega
          have dl' : decide (at_ < es.length) = true := by simp; omega
          have d3 : decide (3 ≤ n) = true := by simpa using h3
          obtain ⟨le, je, c00, U1, U2, f1, f2, f3, f4, f5, f6, f7, ll, lj, g1, g2, hsum⟩ := HSP.out h3 at_ hlt
          have HL : Hid (∀ u, EdgesIn u u.heap.size A1 es → Calls Try.prog 17 #[.agg #[.int .i64 n, .slice A1 es.length c], .int .i64 at_] u (MadeNetB u n le true)) := fun u h => by
            have := withoutEdge_any n at_ A1 c es u h hle' hcap
            rw [f1, f2, f3] at this; exact this
          have HM : Hid (∀ u, EdgesIn u u.heap.size A1 es → Calls Try.prog 18 #[.agg #[.int .i64 n, .slice A1 es.length c], .int .i64 at_] u (GotMade u (n - 1) je (c00 : Nat) true)) := fun u h => by
            have := madeOne_any n at_ A1 c es u h hle'
            rw [f4, f5, f6, f7] at this; exact this
          have HU1 : Hid (∀ (A : Option Addr) (c : Nat) (u : World), EdgesIn u u.heap.size A le → Calls Try.prog 15 #[.agg #[.int .i64 n, .slice A le.length c], .int .i64 p, .int .i64 m] u fun e w' => e = .returned (.int .i64 U1) ∧ Below u.heap.size u w') := fun A c u h => by
            rw [← g1]; exact wholeWays_any n p m A c le u h ll
          have HU2 : Hid (∀ (A : Option Addr) (c : Nat) (u : World), EdgesIn u u.heap.size A je → Calls Try.prog 15 #[.agg #[.int .i64 (n - 1), .slice A je.length c], .int .i64 p, .int .i64 m] u fun e w' => e = .returned (.int .i64 U2) ∧ Below u.heap.size u w') := fun A c u h => by
            rw [← g2]; exact wholeWays_any (n - 1) p m A c je u h lj
          have HSU := Lib.hid hsum
          clear f1 f2 f3 f4 f5 f6 f7 ll lj g1 g2 hsum
          go_wp2_with fail
          refine (HL.out _ L.edges).mono ?_
          rintro e5 w5 ⟨A5, k5, rfl, own5, hb5⟩
          have L5 := L.step hb5 L.lt
          clear hb5 L c0 c1 lw
          have X6 := NetAt.start (n := n) 25 own5
          have hbx := (Below.refl w5.heap.size w5).alloc (Nat.le_refl _) (.cells #[.int .i64 n, .slice A5 le.length k5] 25)
          have L6 := L5.step hbx L5.lt
          have c0 := L5.c0
          have c1 := L5.c1
          have lw := L5.lt
          clear hbx own5
          obtain ⟨W6, hW6⟩ : ∃ W6, W6 = w5.alloc (.cells #[.int .i64 n, .slice A5 le.length k5] 25) := ⟨_, rfl⟩
          go_wp2_with fail
          rw [← hW6] at X6 L6 ⊢
          clear hW6 c0 c1 lw L5
          refine (HM.out _ L6.edges).mono ?_
          rintro e7 w7 ⟨A7, k7, rfl, own7, hb7⟩
          have L7 := L6.step hb7 L6.lt
          have X7 := X6.step hb7 X6.lt
          clear hb7 L6 X6
          have Y8 := NetAt.start (n := n - 1) 25 own7
          have hbx := (Below.refl w7.heap.size w7).alloc (Nat.le_refl _) (.cells #[.int .i64 (n - 1), .slice A7 je.length k7] 25)
          have L8 := L7.step hbx L7.lt
          have X8 := X7.step hbx X7.lt
          have x0 := X7.c0
          have x1 := X7.c1
          have lx := X7.lt
          clear hbx own7
          obtain ⟨W8, hW8⟩ : ∃ W8, W8 = w7.alloc (.cells #[.int .i64 (n - 1), .slice A7 je.length k7] 25) := ⟨_, rfl⟩
          by_cases hc0 : c00 = 0
          · obtain ⟨s1', s2', s3'⟩ := HSU.out hc0
            have e0 : ((c00 : Int) == 0) = true := by simp; omega
            have wa : IntKind.i64.wrap (U1 * (m - p)) = U1 * (m - p) := IntWalk.i64_in _ (by omega)
            have wb : IntKind.i64.wrap (U2 * p) = U2 * p := IntWalk.i64_in _ (by omega)
            have wc : IntKind.i64.wrap (U1 * (m - p) + U2 * p) = V := by rw [s1']; exact IntWalk.i64_in _ (by omega)
            clear s1' s2' s3' hc0
            go_wp2_with fail
            rw [← hW8] at Y8 L8 X8 ⊢
            clear hW8 x0 x1 lx L7 X7
            refine wp_region_class (fun u => ArgNet w1 u n A1 c es ∧ NetAt u wr.heap.size w5.heap.size n A5 k5 le ∧ NetAt u W6.heap.size w7.heap.size (n - 1) A7 k7 je) (by kernel_rfl) (by kernel_rfl) ⟨L8.drew, X8.step ((Below.refl W8.heap.size W8).drew) X8.lt, Y8.step ((Below.refl W8.heap.size W8).drew) Y8.lt⟩ ?_
            intro X hX f hf hex
            have x0 := fun x => (hf x).2.1.c0
            have x1 := fun x => (hf x).2.1.c1
            have y0 := fun x => (hf x).2.2.c0
            have y1 := fun x => (hf x).2.2.c1
            have hon : ∀ x w', Below (f x).heap.size (f x) w' → ArgNet w1 w' n A1 c es ∧ NetAt w' wr.heap.size w5.heap.size n A5 k5 le ∧ NetAt w' W6.heap.size w7.heap.size (n - 1) A7 k7 je := fun x w' hb =>
              ⟨(hf x).1.on w' hb, (hf x).2.1.step hb (hf x).2.1.lt, (hf x).2.2.step hb (hf x).2.2.lt⟩
            repeat (go_big_quiet_step (first
              | (go_at_call 15; with_reducible exact class_of hex (HU1.out _ _ _ (hf _).2.1.edges) (hon _))
              | (go_at_call 15; with_reducible exact class_of hex (HU2.out _ _ _ (hf _).2.2.edges) (hon _))))
            refine wpQuiet_nil ?_
            rintro _ ⟨x, rfl⟩
            obtain ⟨L9, -, -⟩ := hf x
            go_wp2_with fail
            go_roundw
            case rel => exact ⟨at_ + 1, by omega, by go_num, L9⟩
            case measure => simp [intOf]; omega
          · have e0 : ((c00 : Int) == 0) = false := by simp; omega
            clear hc0
            go_wp2_with fail
            rw [← hW8] at Y8 L8 X8 ⊢
            clear hW8 x0 x1 lx L7 X7
            refine wp_region_class (fun u => ArgNet w1 u n A1 c es ∧ NetAt u wr.heap.size w5.heap.size n A5 k5 le ∧ NetAt u W6.heap.size w7.heap.size (n - 1) A7 k7 je) (by kernel_rfl) (by kernel_rfl) ⟨L8.drew, X8.step ((Below.refl W8.heap.size W8).drew) X8.lt, Y8.step ((Below.refl W8.heap.size W8).drew) Y8.lt⟩ ?_
            intro X hX f hf hex
            have x0 := fun x => (hf x).2.1.c0
            have x1 := fun x => (hf x).2.1.c1
            have y0 := fun x => (hf x).2.2.c0
            have y1 := fun x => (hf x).2.2.c1
            have hon : ∀ x w', Below (f x).heap.size (f x) w' → ArgNet w1 w' n A1 c es ∧ NetAt w' wr.heap.size w5.heap.size n A5 k5 le ∧ NetAt w' W6.heap.size w7.heap.size (n - 1) A7 k7 je := fun x w' hb =>
              ⟨(hf x).1.on w' hb, (hf x).2.1.step hb (hf x).2.1.lt, (hf x).2.2.step hb (hf x).2.2.lt⟩
            repeat (go_big_quiet_step (first
              | (go_at_call 15; with_reducible exact class_of hex (HU1.out _ _ _ (hf _).2.1.edges) (hon _))
              | (go_at_call 15; with_reducible exact class_of hex (HU2.out _ _ _ (hf _).2.2.edges) (hon _))))
            refine wpQuiet_nil ?_
            rintro _ ⟨x, rfl⟩
            obtain ⟨L9, -, -⟩ := hf x
            go_wp2_with fail
            go_roundw
            case rel => exact ⟨at_ + 1, by omega, by go_num, L9⟩
            case measure => simp [intOf]; omega
        · rcases (show (at_ < es.length ∧ n < 3) ∨ at_ = es.length by omega) with ⟨hlt, h3⟩ | hlt
          · have dl : decide ((at_ : Int) < (es.length : Int)) = true := by simp; omega
            have dl' : decide (at_ < es.length) = true := by simp; omega
            have d3 : decide (3 ≤ n) = false := by simp; omega
            clear hgo hlt h3 lw
            by_cases hM : N < 0
            all_goals
              have e1 : (N < 0 ∨ V ≤ N) := l2
              try (have hVM : V ≤ N := by omega)
              clear l2 e1
              go_wp2_with fail
              refine (HN.out _ L.edges).mono ?_
              rintro e5 w5 ⟨rfl, hb5⟩
              have L5 := L.step hb5 L.lt
              clear hb5 L c0 c1
              have c0 := L5.c0
              have c1 := L5.c1
              go_wp2_with fail
              refine (HT.out _ L5.edges).mono ?_
              rintro e6 w6 ⟨rfl, hb6⟩
              have L6 := L5.step hb6 L5.lt
              go_wp2_with fail
              go_returns
              exact ⟨rfl, HB.out.trans (L6.below.mono s1)⟩
          · have dl : decide ((at_ : Int) < (es.length : Int)) = false := by simp; omega
            have dl' : decide (at_ < es.length) = false := by simp; omega
            clear hgo hlt lw
            by_cases hM : N < 0
            all_goals
              have e1 : (N < 0 ∨ V ≤ N) := l2
              try (have hVM : V ≤ N := by omega)
              clear l2 e1
              go_wp2_with fail
              refine (HN.out _ L.edges).mono ?_
              rintro e5 w5 ⟨rfl, hb5⟩
              have L5 := L.step hb5 L.lt
              clear hb5 L c0 c1
              have c0 := L5.c0
              have c1 := L5.c1
              go_wp2_with fail
              refine (HT.out _ L5.edges).mono ?_
              rintro e6 w6 ⟨rfl, hb6⟩
              have L6 := L5.step hb6 L5.lt
              go_wp2_with fail
              go_returns
              exact ⟨rfl, HB.out.trans (L6.below.mono s1)⟩
    · have hV : waysI (wholeL n es) p m = -1 := by
        by_cases h1 : netOkB n es = true
        · exact waysI_chance (by simpa [h1] using hok)
        · exact wholeW_not h1
      rw [hV] at HI HS
      clear hV hok
      have c0 := L1.c0
      have c1 := L1.c1
      go_wp2_with fail
      refine (HI.out _ L1.edges).mono ?_
      rintro e2 w2 ⟨rfl, hb2⟩
      have L2 := L1.step hb2 L1.lt
      clear hb2 L1 c0 c1
      have c0 := L2.c0
      have c1 := L2.c1
      go_wp2_with fail
      refine (HS.out _ L2.edges).mono ?_
      rintro e3 w3 ⟨rfl, hb3⟩
      have L3 := L2.step hb3 L2.lt
      clear hb3 L2 c0 c1
      go_wp2_with fail
      refine (alive_any _).mono ?_
      rintro e4 w4 ⟨rfl, hb4⟩
      have L4 := L3.step hb4 L3.lt
      go_wp2_with fail
      go_returns
      exact ⟨rfl, HB.out.trans (L4.below.mono s1)⟩

namespace fnWholeWays
open Go.ChangeShapes Go.WideShapes Go.ChangeAt Go.RowKit Go.Deep Go.Joins
set_option linter.unusedVariables false
set_option maxRecDepth 100000 in
theorem lifted (os : Os) (started : os.Started) (H : Type) (enc : TypeId × Value → H) :
    ReturnsInHanded {} Try.checked os 4 .any (Rows.fnWholeWaysSpec.pre6 enc Try.prog Try.f4 Rows.fnWholeWaysRow.domain false) (Rows.fnWholeWaysSpec.post enc Try.prog Try.f4 false true false false) := by
  refine returnsInHanded_of_change (C := Try.checked) own started (by kernel_rfl) Try.func4
    (ChangeSpec.witness6 (enc := enc) (C := Try.checked) false ⟨#[], #[.slice none 0 0], []⟩ 8 (by kernel_rfl) (by kernel_rfl) (by kernel_rfl) (by kernel_rfl)) ?_
  intro W base args ds gs before hval0 hW hcnd _
  have hval : ∀ (j : Nat) t v, Try.f4.params[j]? = some t → args[j]? = some v → Value.okWide Try.prog W .any base t v := hval0
  have hW' := hW
  obtain ⟨p, q, hA0, hV, rfl, hfz, hnd⟩ := hW
  have hA : DataW.TrodAll enc Try.prog W 0 (fun _ => true) true Try.f4.params.toList args.toList ds p := hA0
  rw [Try.params4] at hA hval
  obtain ⟨v0, vs0, d0, ds0, p0, q0, hargs, rfl, rfl, h0, r0⟩ := trodAll_cons hA
  obtain ⟨rfl, rfl, rfl⟩ := trodAll_nil r0
  obtain rfl : args = #[v0] := by cases args; simp_all
  obtain ⟨rfl, rfl⟩ := trodVars_none hV
  have k0 := h0
  have lt0 : ∀ x ∈ p0, x.block < W.heap.size := by obtain ⟨m, hm⟩ := k0; exact DataW.trod_lt m _ _ _ hm
  obtain ⟨A0, c0, bs0, rfl, hb0, hl0⟩ := open_bytes (hval 0 22 v0 rfl rfl) h0
  clear hA0 hval0
  refine (wholeWays_law A0 c0 bs0 W hb0 hl0).mono fun e W' ⟨he, bel⟩ => ?_
  subst he
  exact ⟨_, rfl, _, _, _, [], _, [], hW', trodAll_mk1 (shut_bool Try.underlying4 _), (trodAll_cons_mk (Below.trod laidOut (by kernel_rfl) (of_decide_eq_true (by kernel_rfl)) k0 bel lt0) trodAll_mk0), rfl, bel.frame _, fun h => by cases h⟩

theorem holds : Rows.FnWholeWaysSaid :=
  OpenClaim.holds_of_wide 4 Try.f4 rfl rfl rfl rfl rfl rfl rfl ⟨rfl, rfl, rfl, rfl, rfl⟩ rfl rfl rfl rfl rfl (by kernel_rfl) Try.func4 (by kernel_rfl)
    (of_decide_eq_true (by kernel_rfl)) (by unfold Func.isWrapper; first | (rw [if_pos (by decide +kernel)]; kernel_rfl) | (rw [if_neg (by decide +kernel)]; exact ⟨rfl, rfl⟩))
    (fun os started H enc _ => lifted os started H enc)
end fnWholeWays

end Go.Proofs.Ytfflfinhhdhnkab
