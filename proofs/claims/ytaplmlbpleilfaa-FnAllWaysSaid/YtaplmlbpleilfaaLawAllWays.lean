/- The law FnAllWays holds of every code: without the last edge, if there is one, times all parts it is the same; without edges it is 1; and of one part it is 1. -/
import Derived.Test.YtaplmlbpleilfaaBytes
import Derived.Test.YtaplmlbpleilfaaDraw5
import Derived.Test.YtaplmlbpleilfaaSpec5
import Derived.Test.YtaplmlbpleilfaaImpl5
import Derived.Test.YtaplmlbpleilfaaWithout
import Derived.Test.YtaplmlbpleilfaaSplit
import Derived.Test.YtaplmlbpleilfaaObj
namespace Go.Proofs.Ytaplmlbpleilfaa
open Go.RowKit
set_option maxRecDepth 100000

/-- The last edge, taken away. -/
theorem last_away {n : Int} {es : List (Int × Int)} {k : Nat} (hn : netOkB n es = true) (hk : es.length = k + 1) :
    ∃ le : List (Int × Int), wE n es k = le ∧ wN n es k = n ∧ atOkB n es k = true ∧ netOkB n le = true ∧ es.length = le.length + 1 := by
  obtain ⟨⟨n2, n6⟩, h9, hev⟩ := netOkB_iff.1 hn
  have hat : k < es.length := by omega
  have hok : atOkB n es k = true := by simp [atOkB, hn, hat]
  refine ⟨_, if_pos hok, if_pos hok, hok, netOkB_iff.2 ⟨⟨n2, n6⟩, ?_, fun e he => hev e ?_⟩, ?_⟩
  · simp; omega
  · rw [List.mem_append] at he
    rcases he with he | he
    · exact List.mem_of_mem_take he
    · exact List.mem_of_mem_drop he
  · simp; omega

set_option maxHeartbeats 4000000 in
theorem allWays_law (A : Option Addr) (cap l : Nat) (w : World) (hb : BytesIn w w.heap.size A l) (hc : l ≤ cap) :
    Calls Try.prog 11 #[.slice A l cap] w fun e w' => e = .returned (.bool true) ∧ Below w.heap.size w w' := by
  by_cases hbig : 1048576 < l
  · go_enter Try.func11, Try.ntmps11
    go_wp2
    go_returns
    exact ⟨rfl, Below.refl _ _⟩
  · have hl : l ≤ 1048576 := by omega
    clear hbig
    go_enter Try.func11, Try.ntmps11
    go_wp2_with fail
    refine (drawAllWays_any _ _ _ _ hb hl hc).mono ?_
    rintro e1 w1 ⟨n, A1, c, es, m, rfl, own, n1, n7, hle, m0, m1, hb1⟩
    have L1 := ArgNet.start (cap := c) (n := n) 37 own.edges
    have hcap := own.cap
    have HB := Lib.hid hb1
    have hle' : es.length ≤ 1048576 := by omega
    have s1 := hb1.size
    clear own hb hb1
    by_cases hok : netOkB n es = true ∧ 1 ≤ m ∧ m ≤ 5
    · obtain ⟨hn, hm⟩ := hok
      have HI : Hid (∀ u, EdgesIn u u.heap.size A1 es → Calls Try.prog 25 #[.agg #[.int .i64 n, .slice A1 es.length c], .int .i64 m] u fun e w' => e = .returned (.int .i64 (allI n es m)) ∧ Below u.heap.size u w') := fun u h => allWays_any n m A1 c es u h hle'
      have HS : Hid (∀ u, EdgesIn u u.heap.size A1 es → Calls Try.prog 35 #[.agg #[.int .i64 n, .slice A1 es.length c], .int .i64 m] u fun e w' => e = .returned (.int .i64 (allI n es m)) ∧ Below u.heap.size u w') := fun u h => specAllWays_any n m A1 c es u h hle'
      have HO : Hid (∀ u, EdgesIn u u.heap.size A1 es → Calls Try.prog 25 #[.agg #[.int .i64 n, .slice A1 es.length c], .int .i64 1] u fun e w' => e = .returned (.int .i64 1) ∧ Below u.heap.size u w') := fun u h => by
        have := allWays_any n 1 A1 c es u h hle'
        rw [allI_one hn] at this; exact this
      obtain ⟨v0, v1⟩ := allI_bound hn hm
      by_cases hz : es.length = 0
      · have hV : allI n es m = 1 := by rw [allI_ok hn hm, hz]; rfl
        have f3 : atOkB n es (-1) = false := by simp [atOkB]
        have HL : Hid (∀ u, EdgesIn u u.heap.size A1 es → Calls Try.prog 32 #[.agg #[.int .i64 n, .slice A1 es.length c], .int .i64 (-1)] u (MadeNetB u 0 [] false)) := fun u h => by
          have := withoutEdge_any n (-1) A1 c es u h hle' hcap
          rw [wN, wE, if_neg (by rw [f3]; simp), if_neg (by rw [f3]; simp), f3] at this; exact this
        rw [hV] at HI HS
        rw [hz] at HI HS HO HL L1 ⊢
        clear hV f3 v0 v1 hn hm hle hle' hcap
        have wl : IntKind.i64.wrap (0 - 1) = -1 := by decide
        have c0 := L1.c0
        have c1 := L1.c1
        go_wp2_with fail
        refine (HI.out _ L1.edges).mono ?_
        rintro e2 w2 ⟨rfl, hb2⟩
        have L2 := L1.step hb2 L1.lt
        clear hb2 L1 c0 c1
        have c0 := L2.c0
        have c1 := L2.c1
        go_wp2_with fail
        refine (HS.out _ L2.edges).mono ?_
        rintro e3 w3 ⟨rfl, hb3⟩
        have L3 := L2.step hb3 L2.lt
        clear hb3 L2 c0 c1
        have c0 := L3.c0
        have c1 := L3.c1
        go_wp2_with fail
        refine (HL.out _ L3.edges).mono ?_
        rintro e4 w4 ⟨A4, k4, rfl, own4, hb4⟩
        have L4 := L3.step hb4 L3.lt
        have hbx := (Below.refl w4.heap.size w4).alloc (Nat.le_refl _) (.cells #[.int .i64 0, .slice A4 0 k4] 37)
        have L5 := L4.step hbx L4.lt
        clear hb4 L3 c0 c1 own4 hbx
        have c0 := L4.c0
        have c1 := L4.c1
        have lw := L4.lt
        obtain ⟨W5, hW5⟩ : ∃ W5, W5 = w4.alloc (.cells #[.int .i64 0, .slice A4 0 k4] 37) := ⟨_, rfl⟩
        go_wp2_with fail
        rw [← hW5] at L5 ⊢
        refine (HO.out _ L5.edges).mono ?_
        rintro e6 w6 ⟨rfl, hb6⟩
        have L6 := L5.step hb6 L5.lt
        go_wp2_with fail
        go_returns
        exact ⟨rfl, HB.out.trans (L6.below.mono s1)⟩
      · obtain ⟨k, hk⟩ : ∃ k, es.length = k + 1 := ⟨es.length - 1, by omega⟩
        obtain ⟨le, f1, f2, f3, hnl, hll⟩ := last_away hn hk
        have hmore := allI_more hn hnl hm hll
        have HL : Hid (∀ u, EdgesIn u u.heap.size A1 es → Calls Try.prog 32 #[.agg #[.int .i64 n, .slice A1 es.length c], .int .i64 k] u (MadeNetB u n le true)) := fun u h => by
          have := withoutEdge_any n k A1 c es u h hle' hcap
          rw [f1, f2, f3] at this; exact this
        have HJ : Hid (∀ (A : Option Addr) (c : Nat) (u : World), EdgesIn u u.heap.size A le → Calls Try.prog 25 #[.agg #[.int .i64 n, .slice A le.length c], .int .i64 m] u fun e w' => e = .returned (.int .i64 (allI n le m)) ∧ Below u.heap.size u w') := fun A c u h => allWays_any n m A c le u h (by omega)
        generalize allI n es m = V at *
        generalize allI n le m = U at *
        have wm : IntKind.i64.wrap (U * m) = V := by rw [hmore]; exact IntWalk.i64_in _ (by omega)
        have wl : IntKind.i64.wrap ((es.length : Int) - 1) = (k : Int) := by rw [hk, IntWalk.i64_in _ (by omega)]; omega
        have d0 : ¬ V < 0 := by omega
        clear hmore hn hm f1 f2 f3 hnl hz hk hll
        have c0 := L1.c0
        have c1 := L1.c1
        go_wp2_with fail
        refine (HI.out _ L1.edges).mono ?_
        rintro e2 w2 ⟨rfl, hb2⟩
        have L2 := L1.step hb2 L1.lt
        clear hb2 L1 c0 c1
        have c0 := L2.c0
        have c1 := L2.c1
        go_wp2_with fail
        refine (HS.out _ L2.edges).mono ?_
        rintro e3 w3 ⟨rfl, hb3⟩
        have L3 := L2.step hb3 L2.lt
        clear hb3 L2 c0 c1
        have c0 := L3.c0
        have c1 := L3.c1
        go_wp2_with fail
        refine (HL.out _ L3.edges).mono ?_
        rintro e4 w4 ⟨A4, k4, rfl, own4, hb4⟩
        have L4 := L3.step hb4 L3.lt
        have X5 := NetAt.start (n := n) 37 own4
        have hbx := (Below.refl w4.heap.size w4).alloc (Nat.le_refl _) (.cells #[.int .i64 n, .slice A4 le.length k4] 37)
        have L5 := L4.step hbx L4.lt
        clear hb4 L3 c0 c1 own4 hbx
        have c0 := L4.c0
        have c1 := L4.c1
        have lw := L4.lt
        obtain ⟨W5, hW5⟩ : ∃ W5, W5 = w4.alloc (.cells #[.int .i64 n, .slice A4 le.length k4] 37) := ⟨_, rfl⟩
        go_wp2_with fail
        rw [← hW5] at L5 X5 ⊢
        clear hW5 c0 c1 lw L4
        refine (HJ.out _ _ _ X5.edges).mono ?_
        rintro e6 w6 ⟨rfl, hb6⟩
        have L6 := L5.step hb6 L5.lt
        clear hb6 L5 X5
        have c0 := L6.c0
        have c1 := L6.c1
        go_wp2_with fail
        refine (HO.out _ L6.edges).mono ?_
        rintro e7 w7 ⟨rfl, hb7⟩
        have L7 := L6.step hb7 L6.lt
        go_wp2_with fail
        go_returns
        exact ⟨rfl, HB.out.trans (L7.below.mono s1)⟩
    · have hV : allI n es m = -1 := if_neg hok
      have HI : Hid (∀ u, EdgesIn u u.heap.size A1 es → Calls Try.prog 25 #[.agg #[.int .i64 n, .slice A1 es.length c], .int .i64 m] u fun e w' => e = .returned (.int .i64 (-1)) ∧ Below u.heap.size u w') := fun u h => by
        have := allWays_any n m A1 c es u h hle'
        rw [hV] at this; exact this
      have HS : Hid (∀ u, EdgesIn u u.heap.size A1 es → Calls Try.prog 35 #[.agg #[.int .i64 n, .slice A1 es.length c], .int .i64 m] u fun e w' => e = .returned (.int .i64 (-1)) ∧ Below u.heap.size u w') := fun u h => by
        have := specAllWays_any n m A1 c es u h hle'
        rw [hV] at this; exact this
      clear hV hok
      have c0 := L1.c0
      have c1 := L1.c1
      go_wp2_with fail
      refine (HI.out _ L1.edges).mono ?_
      rintro e2 w2 ⟨rfl, hb2⟩
      have L2 := L1.step hb2 L1.lt
      clear hb2 L1 c0 c1
      have c0 := L2.c0
      have c1 := L2.c1
      go_wp2_with fail
      refine (HS.out _ L2.edges).mono ?_
      rintro e3 w3 ⟨rfl, hb3⟩
      have L3 := L2.step hb3 L2.lt
      clear hb3 L2 c0 c1
      go_wp2_with fail
      refine (alive_any _).mono ?_
      rintro e4 w4 ⟨rfl, hb4⟩
      have L4 := L3.step hb4 L3.lt
      go_wp2_with fail
      go_returns
      exact ⟨rfl, HB.out.trans (L4.below.mono s1)⟩

namespace fnAllWays
open Go.ChangeShapes Go.WideShapes Go.ChangeAt Go.RowKit Go.Deep Go.Joins
set_option linter.unusedVariables false
set_option maxRecDepth 100000 in
theorem lifted (os : Os) (started : os.Started) (H : Type) (enc : TypeId × Value → H) :
    ReturnsInHanded {} Try.checked os 11 .any (Rows.fnAllWaysSpec.pre6 enc Try.prog Try.f11 Rows.fnAllWaysRow.domain false) (Rows.fnAllWaysSpec.post enc Try.prog Try.f11 false true false false) := by
  refine returnsInHanded_of_change (C := Try.checked) own started (by kernel_rfl) Try.func11
    (ChangeSpec.witness6 (enc := enc) (C := Try.checked) false ⟨#[], #[.slice none 0 0], []⟩ 8 (by kernel_rfl) (by kernel_rfl) (by kernel_rfl) (by kernel_rfl)) ?_
  intro W base args ds gs before hval0 hW hcnd _
  have hval : ∀ (j : Nat) t v, Try.f11.params[j]? = some t → args[j]? = some v → Value.okWide Try.prog W .any base t v := hval0
  have hW' := hW
  obtain ⟨p, q, hA0, hV, rfl, hfz, hnd⟩ := hW
  have hA : DataW.TrodAll enc Try.prog W 0 (fun _ => true) true Try.f11.params.toList args.toList ds p := hA0
  rw [Try.params11] at hA hval
  obtain ⟨v0, vs0, d0, ds0, p0, q0, hargs, rfl, rfl, h0, r0⟩ := trodAll_cons hA
  obtain ⟨rfl, rfl, rfl⟩ := trodAll_nil r0
  obtain rfl : args = #[v0] := by cases args; simp_all
  obtain ⟨rfl, rfl⟩ := trodVars_none hV
  have k0 := h0
  have lt0 : ∀ x ∈ p0, x.block < W.heap.size := by obtain ⟨m, hm⟩ := k0; exact DataW.trod_lt m _ _ _ hm
  obtain ⟨A0, c0, bs0, rfl, hb0, hl0⟩ := open_bytes (hval 0 22 v0 rfl rfl) h0
  clear hA0 hval0
  refine (allWays_law A0 c0 bs0 W hb0 hl0).mono fun e W' ⟨he, bel⟩ => ?_
  subst he
  exact ⟨_, rfl, _, _, _, [], _, [], hW', trodAll_mk1 (shut_bool Try.underlying4 _), (trodAll_cons_mk (Below.trod laidOut (by kernel_rfl) (of_decide_eq_true (by kernel_rfl)) k0 bel lt0) trodAll_mk0), rfl, bel.frame _, fun h => by cases h⟩

theorem holds : Rows.FnAllWaysSaid :=
  OpenClaim.holds_of_wide 11 Try.f11 rfl rfl rfl rfl rfl rfl rfl ⟨rfl, rfl, rfl, rfl, rfl⟩ rfl rfl rfl rfl rfl (by kernel_rfl) Try.func11 (by kernel_rfl)
    (of_decide_eq_true (by kernel_rfl)) (by unfold Func.isWrapper; first | (rw [if_pos (by decide +kernel)]; kernel_rfl) | (rw [if_neg (by decide +kernel)]; exact ⟨rfl, rfl⟩))
    (fun os started H enc _ => lifted os started H enc)
end fnAllWays

end Go.Proofs.Ytaplmlbpleilfaa
