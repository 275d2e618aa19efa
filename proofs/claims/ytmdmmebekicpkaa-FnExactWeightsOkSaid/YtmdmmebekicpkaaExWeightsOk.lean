/- The exact law of WeightsOk holds: the program answers as the reference does, and leaves its arguments alone. -/
import Derived.Test.YtmdmmebekicpkaaMark
import Derived.Test.YtmdmmebekicpkaaEq
import Derived.Test.YtmdmmebekicpkaaShell
import Derived.Test.YtmdmmebekicpkaaOpenRow
import Derived.Test.YtmdmmebekicpkaaWeights
import Derived.Deep.RegionHeld3
namespace Go.Proofs.Ytmdmmebekicpkaa
open Go.RowKit
set_option maxRecDepth 100000

set_option maxHeartbeats 4000000 in
theorem exWeightsOk_walk (n : Int) (A : Option Addr) (cap : Nat) (es : List (Int × Int)) (B : Option Addr) (d : Nat) (ws : List Int) (w : World) (hes : EdgesIn w w.heap.size A es) (hl : es.length ≤ maxLen) (_wf : (Lit.int .i64 n).wf = true) (hx : IntsIn w w.heap.size B ws) (hlx : ws.length ≤ maxLen) :
    Calls Try.prog 13 #[.agg #[.int .i64 n, .slice A es.length cap], .slice B ws.length d] w fun e w' => e = .returned (.bool true) ∧ Below w.heap.size w w' := by
  unfold maxLen at hlx
  obtain ⟨m, hm⟩ : ∃ m, ws.length = m := ⟨_, rfl⟩
  rw [hm] at hlx ⊢
  by_cases hbig2 : (1048576 : Int) < m
  · clear hx hm hes
    go_enter Try.func13, Try.ntmps13
    go_wp2
    go_returns
    exact ⟨rfl, (Below.refl _ _).alloc (Nat.le_refl _) _⟩
  have lm : m ≤ 1048576 := by omega
  by_cases hbig : (1048576 : Int) < es.length
  · clear hx hm
    go_enter Try.func13, Try.ntmps13
    unfold maxLen at hl
    go_wp2_with fail
    refine (szNet_big _ _ _ _ _ hl (by omega)).mono ?_
    rintro e1 w1 ⟨rfl, hb1⟩
    go_wp2
    go_returns
    exact ⟨rfl, ((Below.refl _ _).alloc (Nat.le_refl _) _).trans (hb1.mono (by simp))⟩
  have hl' : es.length ≤ 1048576 := by omega
  obtain ⟨z, hz⟩ : ∃ z, weightsB n es ws = z := ⟨_, rfl⟩
  have HS : Hid (∀ A cap B d u, EdgesIn u u.heap.size A es → IntsIn u u.heap.size B ws → Calls Try.prog 49 #[.agg #[.int .i64 n, .slice A es.length cap], .slice B m d] u fun e w' => e = .returned (.bool z) ∧ Below u.heap.size u w') := fun A cap B d u h1 h2 => by
    rw [← hz, ← hm]; exact specWeightsOk_any n A cap es B d ws u h1 hl' h2 (by omega)
  have HI : Hid (∀ A cap B d u, EdgesIn u u.heap.size A es → IntsIn u u.heap.size B ws → Calls Try.prog 51 #[.agg #[.int .i64 n, .slice A es.length cap], .slice B m d] u fun e w' => e = .returned (.bool z) ∧ Below u.heap.size u w') := fun A cap B d u h1 h2 => by
    rw [← hz, ← hm]; exact weightsOk_any n A cap es B d ws u h1 hl' h2 (by omega)
  have HT : Hid (∀ u, IntsIn u u.heap.size B ws → Calls Try.prog 50 #[.slice B m d] u fun e w' => ∃ A2 c2, e = .returned (.slice A2 m c2) ∧ OwnI w' u.heap.size (.slice A2 m c2) ws ∧ Below u.heap.size u w') := fun u h => by
    have q := toIntS_any B d ws u h (by omega)
    rw [hm] at q
    refine q.mono ?_
    rintro e w' ⟨A2, c2, he, own, hb⟩
    rw [hm] at he own
    exact ⟨A2, c2, he, own, hb⟩
  have HE : Hid (∀ A B c d u, IntsIn u u.heap.size A ws → IntsIn u u.heap.size B ws → Calls Try.prog 52 #[.slice A m c, .slice B m d] u fun e w' => e = .returned (.bool true) ∧ Below u.heap.size u w') := fun A B c d u h1 h2 => eqIntS_self A B c d m ws u h1 h2 hm lm
  have K0 := hx.alloc (Nat.le_refl _) (.cells #[.int .i64 n, .slice A es.length cap] 48)
  clear hbig hbig2 hl hz hx hm
  go_enter Try.func13, Try.ntmps13
  go_wp2_with fail
  refine (szNet_small _ _ _ _ _ hl').mono ?_
  rintro e1 w1 ⟨rfl, hb1⟩
  have L1 := (ArgNet.start 48 hes).step hb1 (by simp)
  have K1 := K0.below hb1 (by simp)
  clear hb1 hes K0
  obtain ⟨_, _, c0, c1, s1⟩ := id L1
  go_wp2_with fail
  refine (toNet_any _ _ _ _ _ L1.edges hl').mono ?_
  rintro e2 w2 ⟨g, rfl, hown2, hb2⟩
  have L2 := L1.step hb2 s1
  have K2 := K1.below hb2 (Nat.le_of_lt s1)
  clear c0 c1 s1 L1 K1
  obtain ⟨_, _, c0, c1, s2⟩ := id L2
  go_wp2_with fail
  refine (HT.out _ (K2.more (Nat.le_of_lt s2))).mono ?_
  rintro e2b w2b ⟨B2, d2, rfl, ownB2, hb2b⟩
  have L2b := L2.step hb2b s2
  have K2b := K2.below hb2b (Nat.le_of_lt s2)
  have hown2b := hown2.below hb2b hown2.lt
  clear c0 c1 s2 L2 K2 hown2 hb2 hb2b
  obtain ⟨_, _, c0, c1, s2⟩ := id L2b
  go_wp2_with fail
  refine (HS.out _ _ _ _ _ hown2b.edges ownB2.ints).mono ?_
  rintro e3 w3 ⟨rfl, hb3⟩
  have L3 := L2b.step hb3 s2
  have K3 := K2b.below hb3 (Nat.le_of_lt s2)
  clear c0 c1 s2 L2b K2b hown2b ownB2 hb3
  obtain ⟨_, _, c0, c1, s3⟩ := id L3
  go_wp2_with fail
  refine (toNet_any _ _ _ _ _ L3.edges hl').mono ?_
  rintro e4 w4 ⟨g', rfl, hown4, hb4⟩
  have L4 := L3.step hb4 s3
  have K4 := K3.below hb4 (Nat.le_of_lt s3)
  clear c0 c1 s3 L3 K3 hb4
  obtain ⟨_, _, c0, c1, s4⟩ := id L4
  have hbx := (Below.refl w4.heap.size w4).alloc (Nat.le_refl _) (.cells #[.int .i64 n, .slice (some ⟨g', 0, none⟩) es.length es.length] 53)
  have hown5 := hown4.below hbx hown4.lt
  have L5 := L4.step hbx s4
  have K5 := K4.below hbx (Nat.le_of_lt s4)
  have glt := hown4.lt g' rfl
  have x0 : (w4.alloc (.cells #[.int .i64 n, .slice (some ⟨g', 0, none⟩) es.length es.length] 53)).cell? ⟨w4.heap.size, 0, none⟩ = some (.int .i64 n) := by rw [World.cell?_alloc_at _ _ _ _ rfl]; rfl
  have x1 : (w4.alloc (.cells #[.int .i64 n, .slice (some ⟨g', 0, none⟩) es.length es.length] 53)).cell? ⟨w4.heap.size, 1, none⟩ = some (.slice (some ⟨g', 0, none⟩) es.length es.length) := by rw [World.cell?_alloc_at _ _ _ _ rfl]; rfl
  have x2 : w4.heap.size < (w4.alloc (.cells #[.int .i64 n, .slice (some ⟨g', 0, none⟩) es.length es.length] 53)).heap.size := by simp
  obtain ⟨W, hW⟩ : ∃ W, W = w4.alloc (.cells #[.int .i64 n, .slice (some ⟨g', 0, none⟩) es.length es.length] 53) := ⟨_, rfl⟩
  go_wp2_with fail
  rw [← hW] at hown5 L5 K5 x0 x1 x2 ⊢
  clear c0 c1 s4 L4 K4 hown4 hbx hW
  generalize w4.heap.size = b4 at *
  obtain ⟨_, _, c0, c1, s5⟩ := id L5
  refine (HT.out _ (K5.more (Nat.le_of_lt s5))).mono ?_
  rintro e5b w5b ⟨B5, d5, rfl, ownB5, hb5b⟩
  have L6 := L5.step hb5b s5
  have K6 := K5.below hb5b (Nat.le_of_lt s5)
  have hown6 := hown5.below hb5b hown5.lt
  have y0 := (hb5b.cell (p := ⟨b4, 0, none⟩) x2).trans x0
  have y1 := (hb5b.cell (p := ⟨b4, 1, none⟩) x2).trans x1
  have y2 := Nat.lt_of_lt_of_le x2 hb5b.size
  clear c0 c1 s5 L5 K5 hown5 x0 x1 x2 hb5b
  obtain ⟨_, _, c0, c1, s6⟩ := id L6
  go_wp2_with fail
  refine (HI.out _ _ _ _ _ hown6.edges ownB5.ints).mono ?_
  rintro e7 w7 ⟨rfl, hb7⟩
  have L7 := L6.step hb7 s6
  have K7 := K6.below hb7 (Nat.le_of_lt s6)
  have hown7 := hown6.below hb7 hown6.lt
  have ownB7 := ownB5.below hb7 ownB5.lt
  have x0 := (hb7.cell (p := ⟨b4, 0, none⟩) y2).trans y0
  have x1 := (hb7.cell (p := ⟨b4, 1, none⟩) y2).trans y1
  have x2 := Nat.lt_of_lt_of_le y2 hb7.size
  have hes7 := hown7.edges.more (B' := w7.heap.size) (Nat.le_refl _)
  clear c0 c1 s6 L6 K6 hown6 ownB5 y0 y1 y2 hb7 hown7
  obtain ⟨_, _, c0, c1, s7⟩ := id L7
  go_wp2_with fail
  go_region_held3 (fun w' => w'.cell? ⟨w.heap.size, 0, none⟩ = some (.int .i64 n) ∧ w'.cell? ⟨w.heap.size, 1, none⟩ = some (.slice A es.length cap) ∧
      w'.cell? ⟨b4, 0, none⟩ = some (.int .i64 n) ∧ w'.cell? ⟨b4, 1, none⟩ = some (.slice (some ⟨g', 0, none⟩) es.length es.length))
    (first | go_keep)
    (first
      | (go_at_call 41
         refine (toNet_any _ _ _ _ _ L7.drew.edges hl').mono ?_
         rintro e8 w8 ⟨g8, rfl, hown8, hb8⟩
         have L8 := L7.drew.step hb8 s7
         have K8 := (K7.below ((Below.refl w7.heap.size w7).drew) (Nat.le_of_lt s7)).below hb8 (Nat.le_of_lt s7)
         have O8 := (ownB7.drew).below hb8 ownB7.drew.lt
         have z0 := (hb8.cell (p := ⟨b4, 0, none⟩) x2).trans x0
         have z1 := (hb8.cell (p := ⟨b4, 1, none⟩) x2).trans x1
         have z2 := L8.c0
         have z3 := L8.c1
         have hes8 := (hes7.below (w' := w7.drew) ((Below.refl _ _).drew) (Nat.le_refl _)).below hb8 (Nat.le_refl _))
      | (go_at_call 43
         refine (eqNet_any _ _ _ _ _ _ _ _ _ (hes8.more hb8.size) hown8.edges hl' hl').mono ?_
         rintro e9 w9 ⟨rfl, hb9⟩
         have L9 := L8.step hb9 L8.lt
         have K9 := K8.below hb9 (Nat.le_of_lt L8.lt)
         have O9 := O8.below hb9 O8.lt
         have z0' := (hb9.cell (p := ⟨b4, 0, none⟩) (Nat.lt_of_lt_of_le x2 hb8.size)).trans z0
         have z1' := (hb9.cell (p := ⟨b4, 1, none⟩) (Nat.lt_of_lt_of_le x2 hb8.size)).trans z1
         have z2' := L9.c0
         have z3' := L9.c1))
  all_goals
    rw [netEqB_self]
    go_wp2_with fail
    refine (HT.out _ (K9.more (Nat.le_of_lt L9.lt))).mono ?_
    rintro eA wA ⟨BA, dA, rfl, ownA, hbA⟩
    have LA := L9.step hbA L9.lt
    have OA := O9.below hbA O9.lt
    go_wp2_with fail
    refine (HE.out _ _ _ _ _ OA.ints ownA.ints).mono ?_
    rintro eB wB ⟨rfl, hbB⟩
    have LB := LA.step hbB LA.lt
    go_wp2_with fail
    go_returns
    exact ⟨rfl, LB.below⟩

namespace fnExactWeightsOk
open Go.ChangeShapes Go.WideShapes Go.ChangeAt Go.RowKit Go.Deep Go.Joins
set_option linter.unusedVariables false
set_option maxRecDepth 100000 in
theorem lifted (os : Os) (started : os.Started) (H : Type) (enc : TypeId × Value → H) :
    ReturnsInHanded {} Try.checked os 13 .any (Rows.fnExactWeightsOkSpec.pre6 enc Try.prog Try.f13 Rows.fnExactWeightsOkRow.domain false) (Rows.fnExactWeightsOkSpec.post enc Try.prog Try.f13 false true false false) := by
  refine returnsInHanded_of_change (C := Try.checked) own started (by kernel_rfl) Try.func13
    (ChangeSpec.witness6 (enc := enc) (C := Try.checked) false ⟨#[], #[.agg #[.int .i64 0, .slice none 0 0], .slice none 0 0], []⟩ 8 (by kernel_rfl) (by kernel_rfl) (by kernel_rfl) (by kernel_rfl)) ?_
  intro W base args ds gs before hval0 hW hcnd _
  have hval : ∀ (j : Nat) t v, Try.f13.params[j]? = some t → args[j]? = some v → Value.okWide Try.prog W .any base t v := hval0
  have hW' := hW
  obtain ⟨p, q, hA0, hV, rfl, hfz, hnd⟩ := hW
  have hA : DataW.TrodAll enc Try.prog W 0 (fun _ => true) true Try.f13.params.toList args.toList ds p := hA0
  rw [Try.params13] at hA hval
  obtain ⟨v0, vs0, d0, ds0, p0, q0, hargs, rfl, rfl, h0, r0⟩ := trodAll_cons hA
  obtain ⟨v1, vs1, d1, ds1, p1, q1, rfl, rfl, rfl, h1, r1⟩ := trodAll_cons r0
  obtain ⟨rfl, rfl, rfl⟩ := trodAll_nil r1
  obtain rfl : args = #[v0, v1] := by cases args; simp_all
  obtain ⟨rfl, rfl⟩ := trodVars_none hV
  have k0 := h0
  have lt0 : ∀ x ∈ p0, x.block < W.heap.size := by obtain ⟨m, hm⟩ := k0; exact DataW.trod_lt m _ _ _ hm
  obtain ⟨n0, A0, c0, es0, rfl, he0, hl0, wf0⟩ := open_net (hval 0 48 v0 rfl rfl) h0
  have k1 := h1
  have lt1 : ∀ x ∈ p1, x.block < W.heap.size := by obtain ⟨m, hm⟩ := k1; exact DataW.trod_lt m _ _ _ hm
  obtain ⟨A1, c1, xs1, rfl, hb1, hl1⟩ := open_row (hval 1 23 v1 rfl rfl) h1
  clear hA0 hval0
  refine (exWeightsOk_walk n0 A0 c0 es0 A1 c1 xs1 W he0 hl0 wf0 hb1 hl1).mono fun e W' ⟨he, bel⟩ => ?_
  subst he
  exact ⟨_, rfl, _, _, _, [], _, [], hW', trodAll_mk1 (shut_bool Try.underlying4 _), (trodAll_cons_mk (Below.trod laidOut (by kernel_rfl) (of_decide_eq_true (by kernel_rfl)) k0 bel lt0) (trodAll_cons_mk (Below.trod laidOut (by kernel_rfl) (of_decide_eq_true (by kernel_rfl)) k1 bel lt1) trodAll_mk0)), rfl, bel.frame _, fun h => by cases h⟩

theorem holds : Rows.FnExactWeightsOkSaid :=
  OpenClaim.holds_of_wide 13 Try.f13 rfl rfl rfl rfl rfl rfl rfl ⟨rfl, rfl, rfl, rfl, rfl⟩ rfl rfl rfl rfl rfl (by kernel_rfl) Try.func13 (by kernel_rfl)
    (of_decide_eq_true (by kernel_rfl)) (by unfold Func.isWrapper; first | (rw [if_pos (by decide +kernel)]; kernel_rfl) | (rw [if_neg (by decide +kernel)]; exact ⟨rfl, rfl⟩))
    (fun os started H enc _ => lifted os started H enc)
end fnExactWeightsOk
end Go.Proofs.Ytmdmmebekicpkaa
