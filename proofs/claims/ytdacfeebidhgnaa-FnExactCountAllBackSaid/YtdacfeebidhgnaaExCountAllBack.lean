/- The exact law of CountAllBack holds: the program answers as the reference does, and leaves its argument alone. -/
import Derived.Test.YtdacfeebidhgnaaMark
import Derived.Test.YtdacfeebidhgnaaSpec11f
import Derived.Test.YtdacfeebidhgnaaImpl11e
namespace Go.Proofs.Ytdacfeebidhgnaa
open Go.RowKit
set_option maxRecDepth 100000

theorem exCountAllBack_walk (n : Int) (A : Option Addr) (cap : Nat) (es : List (Int × Int)) (w : World) (hes : EdgesIn w w.heap.size A es) (hl : es.length ≤ maxLen) (_wf : (Lit.int .i64 n).wf = true) :
    Calls Try.prog 9 #[.agg #[.int .i64 n, .slice A es.length cap]] w fun e w' => e = .returned (.bool true) ∧ Below w.heap.size w w' := by
  by_cases hbig : (1048576 : Int) < es.length
  · go_enter Try.func9, Try.ntmps9
    unfold maxLen at hl
    go_wp2_with fail
    refine (szNet_big _ _ _ _ _ hl (by omega)).mono ?_
    rintro e1 w1 ⟨rfl, hb1⟩
    go_wp2
    go_returns
    exact ⟨rfl, ((Below.refl _ _).alloc (Nat.le_refl _) _).trans (hb1.mono (by simp))⟩
  · have hl' : es.length ≤ 1048576 := by omega
    clear hbig hl
    go_enter Try.func9, Try.ntmps9
    go_wp2_with fail
    refine (szNet_small _ _ _ _ _ hl').mono ?_
    rintro e1 w1 ⟨rfl, hb1⟩
    have L1 := (ArgNet.start 24 hes).step hb1 (by simp)
    clear hb1 hes
    obtain ⟨_, _, c0, c1, s1⟩ := id L1
    go_wp2_with fail
    refine (toNet_any _ _ _ _ _ L1.edges hl').mono ?_
    rintro e2 w2 ⟨g, rfl, hown2, hb2⟩
    have L2 := L1.step hb2 s1
    clear c0 c1 s1 L1
    obtain ⟨_, _, c0, c1, s2⟩ := id L2
    go_wp2_with fail
    refine (specCountAllBack_any _ _ _ _ _ hown2.edges hl').mono ?_
    rintro e3 w3 ⟨rfl, hb3⟩
    have L3 := L2.step hb3 s2
    clear c0 c1 s2 L2 hb2 hown2 hb3
    obtain ⟨_, _, c0, c1, s3⟩ := id L3
    go_wp2_with fail
    refine (toNet_any _ _ _ _ _ L3.edges hl').mono ?_
    rintro e4 w4 ⟨g', rfl, hown4, hb4⟩
    have L4 := L3.step hb4 s3
    clear c0 c1 s3 L3 hb4
    obtain ⟨_, _, c0, c1, s4⟩ := id L4
    go_wp2_with fail
    have hown5 := hown4.below ((Below.refl w4.heap.size w4).alloc (Nat.le_refl _) (.cells #[.int .i64 n, .slice (some ⟨g', 0, none⟩) es.length es.length] 29)) hown4.lt
    have L5 := L4.step ((Below.refl w4.heap.size w4).alloc (Nat.le_refl _) (.cells #[.int .i64 n, .slice (some ⟨g', 0, none⟩) es.length es.length] 29)) s4
    have glt := hown4.lt g' rfl
    clear c0 c1 L4 hown4
    refine (countAllBack_any _ _ _ _ _ hown5.edges hl').mono ?_
    rintro e5 w5 ⟨rfl, hb5⟩
    have L6 := L5.step hb5 (by simp; omega)
    have hown6 := hown5.below hb5 hown5.lt
    have x0 : w5.cell? ⟨w4.heap.size, 0, none⟩ = some (.int .i64 n) := by
      rw [hb5.cell (p := ⟨w4.heap.size, 0, none⟩) (by simp), World.cell?_alloc_at _ _ _ _ rfl]; rfl
    have x1 : w5.cell? ⟨w4.heap.size, 1, none⟩ = some (.slice (some ⟨g', 0, none⟩) es.length es.length) := by
      rw [hb5.cell (p := ⟨w4.heap.size, 1, none⟩) (by simp), World.cell?_alloc_at _ _ _ _ rfl]; rfl
    have x2 : w4.heap.size < w5.heap.size := by have := hb5.size; simp only [World.size_alloc, Nat.succ_le_iff] at this; exact this
    have hes6 := hown6.edges.more (B' := w5.heap.size) (Nat.le_refl _)
    clear L5 hown5 hb5 hown6
    obtain ⟨_, _, c0, c1, s6⟩ := id L6
    go_wp2_with fail
    go_region_held3 (fun w' => w'.cell? ⟨w.heap.size, 0, none⟩ = some (.int .i64 n) ∧ w'.cell? ⟨w.heap.size, 1, none⟩ = some (.slice A es.length cap) ∧
        w'.cell? ⟨w4.heap.size, 0, none⟩ = some (.int .i64 n) ∧ w'.cell? ⟨w4.heap.size, 1, none⟩ = some (.slice (some ⟨g', 0, none⟩) es.length es.length))
      (first | go_keep)
      (first
        | (go_at_call 17
           refine (toNet_any _ _ _ _ _ L6.drew.edges hl').mono ?_
           rintro e7 w7 ⟨g7, rfl, hown7, hb7⟩
           have L7 := L6.drew.step hb7 s6
           have y0 := (hb7.cell (p := ⟨w4.heap.size, 0, none⟩) x2).trans x0
           have y1 := (hb7.cell (p := ⟨w4.heap.size, 1, none⟩) x2).trans x1
           have z0 := L7.c0
           have z1 := L7.c1
           have hes7 := (hes6.below (w' := w5.drew) ((Below.refl _ _).drew) (Nat.le_refl _)).below hb7 (Nat.le_refl _))
        | (go_at_call 19
           refine (eqNet_any _ _ _ _ _ _ _ _ _ (hes7.more hb7.size) hown7.edges hl' hl').mono ?_
           rintro e8 w8 ⟨rfl, hb8⟩
           have L8 := L7.step hb8 L7.lt
           have y0' := (hb8.cell (p := ⟨w4.heap.size, 0, none⟩) (Nat.lt_of_lt_of_le x2 hb7.size)).trans y0
           have y1' := (hb8.cell (p := ⟨w4.heap.size, 1, none⟩) (Nat.lt_of_lt_of_le x2 hb7.size)).trans y1
           have z0' := L8.c0
           have z1' := L8.c1))
    rw [netEqB_self]
    go_wp2
    go_returns
    exact ⟨rfl, L8.below⟩

namespace fnExactCountAllBack
open Go.ChangeShapes Go.WideShapes Go.ChangeAt Go.RowKit Go.Deep Go.Joins
set_option linter.unusedVariables false
set_option maxRecDepth 100000 in
theorem lifted (os : Os) (started : os.Started) (H : Type) (enc : TypeId × Value → H) :
    ReturnsInHanded {} Try.checked os 9 .any (Rows.fnExactCountAllBackSpec.pre6 enc Try.prog Try.f9 Rows.fnExactCountAllBackRow.domain false) (Rows.fnExactCountAllBackSpec.post enc Try.prog Try.f9 false true false false) := by
  refine returnsInHanded_of_change (C := Try.checked) own started (by kernel_rfl) Try.func9
    (ChangeSpec.witness6 (enc := enc) (C := Try.checked) false ⟨#[], #[.agg #[.int .i64 0, .slice none 0 0]], []⟩ 8 (by kernel_rfl) (by kernel_rfl) (by kernel_rfl) (by kernel_rfl)) ?_
  intro W base args ds gs before hval0 hW hcnd _
  have hval : ∀ (j : Nat) t v, Try.f9.params[j]? = some t → args[j]? = some v → Value.okWide Try.prog W .any base t v := hval0
  have hW' := hW
  obtain ⟨p, q, hA0, hV, rfl, hfz, hnd⟩ := hW
  have hA : DataW.TrodAll enc Try.prog W 0 (fun _ => true) true Try.f9.params.toList args.toList ds p := hA0
  rw [Try.params9] at hA hval
  obtain ⟨v0, vs0, d0, ds0, p0, q0, hargs, rfl, rfl, h0, r0⟩ := trodAll_cons hA
  obtain ⟨rfl, rfl, rfl⟩ := trodAll_nil r0
  obtain rfl : args = #[v0] := by cases args; simp_all
  obtain ⟨rfl, rfl⟩ := trodVars_none hV
  have k0 := h0
  have lt0 : ∀ x ∈ p0, x.block < W.heap.size := by obtain ⟨m, hm⟩ := k0; exact DataW.trod_lt m _ _ _ hm
  obtain ⟨n0, A0, c0, es0, rfl, he0, hl0, wf0⟩ := open_net (hval 0 24 v0 rfl rfl) h0
  clear hA0 hval0
  refine (exCountAllBack_walk n0 A0 c0 es0 W he0 hl0 wf0).mono fun e W' ⟨he, bel⟩ => ?_
  subst he
  exact ⟨_, rfl, _, _, _, [], _, [], hW', trodAll_mk1 (shut_bool Try.underlying4 _), (trodAll_cons_mk (Below.trod laidOut (by kernel_rfl) (of_decide_eq_true (by kernel_rfl)) k0 bel lt0) trodAll_mk0), rfl, bel.frame _, fun h => by cases h⟩

theorem holds : Rows.FnExactCountAllBackSaid :=
  OpenClaim.holds_of_wide 9 Try.f9 rfl rfl rfl rfl rfl rfl rfl ⟨rfl, rfl, rfl, rfl, rfl⟩ rfl rfl rfl rfl rfl (by kernel_rfl) Try.func9 (by kernel_rfl)
    (of_decide_eq_true (by kernel_rfl)) (by unfold Func.isWrapper; first | (rw [if_pos (by decide +kernel)]; kernel_rfl) | (rw [if_neg (by decide +kernel)]; exact ⟨rfl, rfl⟩))
    (fun os started H enc _ => lifted os started H enc)
end fnExactCountAllBack
end Go.Proofs.Ytdacfeebidhgnaa
