/- The law FnMadeOne holds of every code: made one there is a net with one node fewer; edges, those left out and the edge are as many as before; at the new node there are as many as at both ends, less twice the edge and those left out; where there is no such edge the zero value, -1 and false. -/
import Derived.Test.YtonofgpghfolpaaBytes
import Derived.Test.YtonofgpghfolpaaDrawFns
import Derived.Test.YtonofgpghfolpaaMadeF
import Derived.Test.YtonofgpghfolpaaSame
import Derived.Test.YtonofgpghfolpaaClass
namespace Go.Proofs.Ytonofgpghfolpaa
open Go.RowKit

/-- The law's three boxes: its net, the net without the edge, the edge. -/
def Three (w1 w2 : World) (n : Int) (A1 : Option Addr) (c : Nat) (es : List (Int × Int)) (n' : Int) (A5 : Option Addr) (c5 : Nat) (es' : List (Int × Int)) (b9 : Nat) (e : Int × Int) (u : World) : Prop :=
  ArgNet w1 u n A1 c es ∧ ArgNet w2 u n' A5 c5 es' ∧ u.cell? ⟨b9, 0, none⟩ = some (.int .i64 e.1) ∧ u.cell? ⟨b9, 1, none⟩ = some (.int .i64 e.2) ∧ b9 < u.heap.size
theorem Three.on {w1 w2 : World} {n : Int} {A1 : Option Addr} {c : Nat} {es : List (Int × Int)} {n' : Int} {A5 : Option Addr} {c5 : Nat} {es' : List (Int × Int)} {b9 : Nat} {e : Int × Int} {u : World} (h : Three w1 w2 n A1 c es n' A5 c5 es' b9 e u) :
    ∀ w', Below u.heap.size u w' → Three w1 w2 n A1 c es n' A5 c5 es' b9 e w' := fun w' hb => by
  obtain ⟨a1, a2, a3, a4, a5⟩ := h
  exact ⟨a1.on _ hb, a2.on _ hb, (hb.cell (p := ⟨b9, 0, none⟩) a5).trans a3, (hb.cell (p := ⟨b9, 1, none⟩) a5).trans a4, Nat.lt_of_lt_of_le a5 hb.size⟩

set_option maxRecDepth 100000 in
set_option maxHeartbeats 4000000 in
theorem madeOne_law (A : Option Addr) (cap l : Nat) (w : World) (hb : BytesIn w w.heap.size A l) (hc : l ≤ cap) :
    Calls Try.prog 3 #[.slice A l cap] w fun e w' => e = .returned (.bool true) ∧ Below w.heap.size w w' := by
  by_cases hbig : 1048576 < l
  · go_enter Try.func3, Try.ntmps3
    go_wp2
    go_returns
    exact ⟨rfl, Below.refl _ _⟩
  · have hl : l ≤ 1048576 := by omega
    clear hbig
    go_enter Try.func3, Try.ntmps3
    go_wp2_with fail
    refine (drawMadeOne_any _ _ _ _ hb hl hc).mono ?_
    rintro e1 w1 ⟨n, A1, c, es, s, rfl, own, n1, n7, hle, sl, sh, hb1⟩
    have L1 := ArgNet.start (cap := c) (n := n) 25 own.edges
    have hcap := own.cap
    have HB := Lib.hid hb1
    have hle' : es.length ≤ 1048576 := by omega
    have s1 := hb1.size
    clear own hb hb1
    by_cases hok : mOk n es s = true
    · have hh := hok
      simp only [mOk, atOkB, Bool.and_eq_true, decide_eq_true_eq] at hh
      obtain ⟨⟨hn, ha0, ha1⟩, hn3⟩ := hh
      obtain ⟨k, rfl⟩ : ∃ k : Nat, s = k := ⟨s.toNat, by omega⟩
      have hk : k < es.length := by omega
      obtain ⟨f1, f2, f3, f4, M1, M2v, p1, r1, p2, p3, p4, r3, r4⟩ := made_facts hn hn3 hk
      have hgd : es.getD k (0, 0) = es[k] := by simp [hk]
      have hEE : mE n es k = madeL es[k] es := by simp only [mE, hok, if_true, Int.toNat_natCast, hgd]
      have hLL : mL n es k = (es.countP (fun e => eqEB e es[k]) : Nat) - 1 := by simp only [mL, hok, if_true, Int.toNat_natCast, hgd]
      have hNN : mN n es k = n - 1 := by simp [mN, hok]
      have hget : Hid (es[k]? = some es[k]) := List.getElem?_eq_getElem hk
      obtain ⟨lft, hlft⟩ : ∃ lft : Int, ((es.countP (fun e => eqEB e es[k]) : Nat) : Int) - 1 = lft := ⟨_, rfl⟩
      obtain ⟨es', hes'⟩ : ∃ es', madeL es[k] es = es' := ⟨_, rfl⟩
      obtain ⟨n', hn'⟩ : ∃ n', n - 1 = n' := ⟨_, rfl⟩
      have hl0 : 0 ≤ lft := by omega
      have hl9 : lft ≤ 9 := by omega
      rw [hes', hlft] at f2
      rw [hlft, hes', hn'] at p2
      rw [hes', hn'] at f1
      have HW : Hid (mN n es k = n' ∧ mE n es k = es' ∧ mL n es k = lft ∧ mOk n es k = true) := ⟨hNN.trans hn', hEE.trans hes', hLL.trans hlft, hok⟩
      have wn : IntKind.i64.wrap (n - 1) = n' := by rw [IntWalk.i64_in _ (by omega)]; exact hn'
      have hle2 : es'.length ≤ 1048576 := by omega
      have wA : IntKind.i64.wrap ((es'.length : Int) + lft) = (es'.length : Int) + lft := IntWalk.i64_in _ (by omega)
      have wB : IntKind.i64.wrap ((es'.length : Int) + lft + 1) = (es.length : Int) := by rw [IntWalk.i64_in _ (by omega)]; exact f2
      have w1' : IntKind.i64.wrap (M1 + M2v) = M1 + M2v := IntWalk.i64_in _ (by omega)
      have w2' : IntKind.i64.wrap (lft + 1) = lft + 1 := IntWalk.i64_in _ (by omega)
      have w3' : IntKind.i64.wrap (2 * (lft + 1)) = 2 * (lft + 1) := IntWalk.i64_in _ (by omega)
      obtain ⟨D, hD⟩ : ∃ D, M1 + M2v - 2 * (lft + 1) = D := ⟨_, rfl⟩
      have w4' : IntKind.i64.wrap (M1 + M2v - 2 * (lft + 1)) = D := by rw [IntWalk.i64_in _ (by omega)]; exact hD
      rw [hD] at p2
      have F1 := Lib.hid f1
      have P1 := Lib.hid p1
      have P2 := Lib.hid p2
      have R1 := Lib.hid r1
      generalize es[k] = e at *
      clear hok hn ha0 ha1 f1 f2 f3 f4 p1 p2 r1 hD hn' hes' hlft hEE hLL hNN hgd
      go_wp2_with fail
      refine (madeOne_is _ _ _ _ _ _ L1.edges hle' n' es' lft true HW.out).mono ?_
      rintro e2 w2 ⟨A5, c5, rfl, own2, hb2⟩
      have L2 := L1.step hb2 L1.lt
      have M2 := ArgNet.start (cap := c5) (n := n') 25 own2.edges
      have L3 := L2.step ((Below.refl _ _).alloc (Nat.le_refl _) (.cells #[.int .i64 n', .slice A5 es'.length c5] 25)) L2.lt
      have c0 := L2.c0
      have c1 := L2.c1
      have s2 := L2.lt
      clear hb2 own2 L1 L2
      obtain ⟨W3, hW3⟩ : ∃ W3, W3 = w2.alloc (.cells #[.int .i64 n', .slice A5 es'.length c5] 25) := ⟨_, rfl⟩
      go_wp2_with fail
      rw [← hW3] at L3 M2 ⊢
      clear hW3 c0 c1 s2
      refine (specMadeOne_is _ _ _ _ _ _ L3.edges hle' n' es' lft true HW.out).mono ?_
      rintro e4 w4 ⟨A7, c7, rfl, own4, hb4⟩
      have L4 := L3.step hb4 L3.lt
      have M4 := M2.step hb4 M2.lt
      have N4 := ArgNet.start (cap := c7) (n := n') 25 own4.edges
      have L5 := L4.step ((Below.refl _ _).alloc (Nat.le_refl _) (.cells #[.int .i64 n', .slice A7 es'.length c7] 25)) L4.lt
      have M5 := M4.step ((Below.refl _ _).alloc (Nat.le_refl _) (.cells #[.int .i64 n', .slice A7 es'.length c7] 25)) M4.lt
      clear hb4 own4 L3 L4 M2 M4
      obtain ⟨W5, hW5⟩ : ∃ W5, W5 = w4.alloc (.cells #[.int .i64 n', .slice A7 es'.length c7] 25) := ⟨_, rfl⟩
      go_upto_region 6 with (fail)
      rw [← hW5] at L5 M5 N4 ⊢
      clear hW5
      have c0 := L5.c0
      have c1 := L5.c1
      have m0 := M5.c0
      have m1 := M5.c1
      have k0 := N4.c0
      have k1 := N4.c1
      go_wp2_with fail
      refine (sameNet_self _ _ _ _ _ _ _ M5.edges N4.edges hle2).mono ?_
      rintro e6 w6 ⟨rfl, hb6⟩
      have L6 := L5.step hb6 L5.lt
      have M6 := M5.step hb6 M5.lt
      clear hb6 L5 M5 N4 c0 c1 m0 m1 k0 k1
      have c0 := L6.c0
      have c1 := L6.c1
      have m0 := M6.c0
      have m1 := M6.c1
      have s6 := L6.lt
      have t6 := M6.lt
      obtain ⟨b, off, hA1, hbb, g1, g2⟩ := L6.at_ k e hget.out
      subst hA1
      go_wp2_with fail
      have T0 : Three w1 w2 n (some ⟨b, off, none⟩) c es n' A5 c5 es' w6.heap.size e (w6.alloc (.cells #[.int .i64 e.1, .int .i64 e.2] 33)).drew := by
        have hb7 := ((Below.refl w6.heap.size w6).alloc (Nat.le_refl _) (.cells #[.int .i64 e.1, .int .i64 e.2] 33)).drew
        refine ⟨L6.step hb7 s6, M6.step hb7 t6, ?_, ?_, by simp⟩
        · show (w6.alloc _).cell? _ = _
          rw [World.cell?_alloc_at _ _ _ _ rfl]; rfl
        · show (w6.alloc _).cell? _ = _
          rw [World.cell?_alloc_at _ _ _ _ rfl]; rfl
      refine wp_region_class (Three w1 w2 n (some ⟨b, off, none⟩) c es n' A5 c5 es' w6.heap.size e) (by kernel_rfl) (by kernel_rfl) T0 ?_
      clear T0 c0 c1 m0 m1 g1 g2
      intro X hX f hf hex
      have c0 : ∀ x, (f x).cell? ⟨w1.heap.size, 0, none⟩ = some (.int .i64 n) := fun x => (hf x).1.c0
      have c1 : ∀ x, (f x).cell? ⟨w1.heap.size, 1, none⟩ = some (.slice (some ⟨b, off, none⟩) es.length c) := fun x => (hf x).1.c1
      have m0 : ∀ x, (f x).cell? ⟨w2.heap.size, 0, none⟩ = some (.int .i64 n') := fun x => (hf x).2.1.c0
      have m1 : ∀ x, (f x).cell? ⟨w2.heap.size, 1, none⟩ = some (.slice A5 es'.length c5) := fun x => (hf x).2.1.c1
      have x0 : ∀ x, (f x).cell? ⟨w6.heap.size, 0, none⟩ = some (.int .i64 e.1) := fun x => (hf x).2.2.1
      have x1 : ∀ x, (f x).cell? ⟨w6.heap.size, 1, none⟩ = some (.int .i64 e.2) := fun x => (hf x).2.2.2.1
      have hA : ∀ x, EdgesIn (f x) (f x).heap.size (some ⟨b, off, none⟩) es := fun x => (hf x).1.edges
      have hB : ∀ x, EdgesIn (f x) (f x).heap.size A5 es' := fun x => (hf x).2.1.edges
      have hO : ∀ x, ∀ w', Below (f x).heap.size (f x) w' → Three w1 w2 n (some ⟨b, off, none⟩) c es n' A5 c5 es' w6.heap.size e w' := fun x => (hf x).on
      repeat (go_big_quiet_step (first
        | (go_at_call 20; with_reducible exact class_of hex (netOk_val _ _ _ _ _ (hB _) hle2 true F1.out) (hO _))
        | (go_at_call 21; with_reducible exact class_of hex (edgesAt_val _ _ _ _ _ _ (hB _) hle2 _ P2.out) (hO _))
        | (go_at_call 21; with_reducible exact class_of hex (edgesAt_val _ _ _ _ _ _ (hA _) hle' _ P1.out) (hO _))
        | (go_at_call 21; with_reducible exact class_of hex (edgesAt_val _ _ _ _ _ _ (hA _) hle' _ R1.out) (hO _))))
      refine wpQuiet_nil ?_
      rintro _ ⟨x, rfl⟩
      have L7 := (hf x).1
      go_wp2_with fail
      go_returns
      exact ⟨rfl, HB.out.trans (L7.below.mono s1)⟩
    · have HW : Hid (mN n es s = 0 ∧ mE n es s = [] ∧ mL n es s = -1 ∧ mOk n es s = false) := ⟨by simp [mN, hok], by simp [mE, hok], by simp [mL, hok], by simpa using hok⟩
      clear hok
      obtain ⟨n', es', hn', hes'⟩ : ∃ (n' : Int) (es' : List (Int × Int)), n' = 0 ∧ es' = [] := ⟨0, [], rfl, rfl⟩
      have hle2 : es'.length ≤ 1048576 := by rw [hes']; simp
      obtain ⟨lft, hlf⟩ : ∃ lft : Int, lft = -1 := ⟨_, rfl⟩
      have HW : Hid (mN n es s = n' ∧ mE n es s = es' ∧ mL n es s = lft ∧ mOk n es s = false) := by rw [hn', hes', hlf]; exact HW
      have HLF := Lib.hid hlf
      clear hlf
      have HN := Lib.hid hn'
      have HES := Lib.hid hes'
      clear hn' hes'
      go_wp2_with fail
      refine (madeOne_is _ _ _ _ _ _ L1.edges hle' n' es' lft false HW.out).mono ?_
      rintro e2 w2 ⟨A5, c5, rfl, own2, hb2⟩
      have L2 := L1.step hb2 L1.lt
      have M2 := ArgNet.start (cap := c5) (n := n') 25 own2.edges
      have L3 := L2.step ((Below.refl _ _).alloc (Nat.le_refl _) (.cells #[.int .i64 n', .slice A5 es'.length c5] 25)) L2.lt
      have c0 := L2.c0
      have c1 := L2.c1
      have s2 := L2.lt
      clear hb2 own2 L1 L2
      obtain ⟨W3, hW3⟩ : ∃ W3, W3 = w2.alloc (.cells #[.int .i64 n', .slice A5 es'.length c5] 25) := ⟨_, rfl⟩
      go_wp2_with fail
      rw [← hW3] at L3 M2 ⊢
      clear hW3 c0 c1 s2
      refine (specMadeOne_is _ _ _ _ _ _ L3.edges hle' n' es' lft false HW.out).mono ?_
      rintro e4 w4 ⟨A7, c7, rfl, own4, hb4⟩
      have L4 := L3.step hb4 L3.lt
      have M4 := M2.step hb4 M2.lt
      have N4 := ArgNet.start (cap := c7) (n := n') 25 own4.edges
      have L5 := L4.step ((Below.refl _ _).alloc (Nat.le_refl _) (.cells #[.int .i64 n', .slice A7 es'.length c7] 25)) L4.lt
      have M5 := M4.step ((Below.refl _ _).alloc (Nat.le_refl _) (.cells #[.int .i64 n', .slice A7 es'.length c7] 25)) M4.lt
      clear hb4 own4 L3 L4 M2 M4
      obtain ⟨W5, hW5⟩ : ∃ W5, W5 = w4.alloc (.cells #[.int .i64 n', .slice A7 es'.length c7] 25) := ⟨_, rfl⟩
      go_upto_region 6 with (fail)
      rw [← hW5] at L5 M5 N4 ⊢
      clear hW5
      have c0 := L5.c0
      have c1 := L5.c1
      have m0 := M5.c0
      have m1 := M5.c1
      have k0 := N4.c0
      have k1 := N4.c1
      go_wp2_with fail
      refine (sameNet_self _ _ _ _ _ _ _ M5.edges N4.edges hle2).mono ?_
      rintro e6 w6 ⟨rfl, hb6⟩
      have L6 := L5.step hb6 L5.lt
      have M6 := M5.step hb6 M5.lt
      clear hb6 L5 M5 N4 c0 c1 m0 m1 k0 k1
      have c0 := L6.c0
      have c1 := L6.c1
      have m0 := M6.c0
      have m1 := M6.c1
      have s6 := L6.lt
      have t6 := M6.lt
      go_wp2_with fail
      have hn0 := HN.out
      have he0 := HES.out
      have hl0 := HLF.out
      subst hn0 he0 hl0
      refine (sameNet_self 0 A5 none c5 0 [] _ EdgesIn.nil EdgesIn.nil (by simp)).mono ?_
      rintro e7 w7 ⟨rfl, hb7⟩
      have L7 := L6.step hb7 s6
      clear hb7
      go_wp2_with fail
      refine (alive_any _).mono ?_
      rintro e8 w8 ⟨rfl, hb8⟩
      have L8 := L7.step hb8 L7.lt
      clear hb8
      go_wp2_with fail
      go_returns
      exact ⟨rfl, HB.out.trans (L8.below.mono s1)⟩

namespace fnMadeOne
open Go.ChangeShapes Go.WideShapes Go.ChangeAt Go.RowKit Go.Deep Go.Joins
set_option linter.unusedVariables false
set_option maxRecDepth 100000 in
theorem lifted (os : Os) (started : os.Started) (H : Type) (enc : TypeId × Value → H) :
    ReturnsInHanded {} Try.checked os 3 .any (Rows.fnMadeOneSpec.pre6 enc Try.prog Try.f3 Rows.fnMadeOneRow.domain false) (Rows.fnMadeOneSpec.post enc Try.prog Try.f3 false true false false) := by
  refine returnsInHanded_of_change (C := Try.checked) own started (by kernel_rfl) Try.func3
    (ChangeSpec.witness6 (enc := enc) (C := Try.checked) false ⟨#[], #[.slice none 0 0], []⟩ 8 (by kernel_rfl) (by kernel_rfl) (by kernel_rfl) (by kernel_rfl)) ?_
  intro W base args ds gs before hval0 hW hcnd _
  have hval : ∀ (j : Nat) t v, Try.f3.params[j]? = some t → args[j]? = some v → Value.okWide Try.prog W .any base t v := hval0
  have hW' := hW
  obtain ⟨p, q, hA0, hV, rfl, hfz, hnd⟩ := hW
  have hA : DataW.TrodAll enc Try.prog W 0 (fun _ => true) true Try.f3.params.toList args.toList ds p := hA0
  rw [Try.params3] at hA hval
  obtain ⟨v0, vs0, d0, ds0, p0, q0, hargs, rfl, rfl, h0, r0⟩ := trodAll_cons hA
  obtain ⟨rfl, rfl, rfl⟩ := trodAll_nil r0
  obtain rfl : args = #[v0] := by cases args; simp_all
  obtain ⟨rfl, rfl⟩ := trodVars_none hV
  have k0 := h0
  have lt0 : ∀ x ∈ p0, x.block < W.heap.size := by obtain ⟨m, hm⟩ := k0; exact DataW.trod_lt m _ _ _ hm
  obtain ⟨A0, c0, bs0, rfl, hb0, hl0⟩ := open_bytes (hval 0 22 v0 rfl rfl) h0
  clear hA0 hval0
  refine (madeOne_law A0 c0 bs0 W hb0 hl0).mono fun e W' ⟨he, bel⟩ => ?_
  subst he
  exact ⟨_, rfl, _, _, _, [], _, [], hW', trodAll_mk1 (shut_bool Try.underlying4 _), (trodAll_cons_mk (Below.trod laidOut (by kernel_rfl) (of_decide_eq_true (by kernel_rfl)) k0 bel lt0) trodAll_mk0), rfl, bel.frame _, fun h => by cases h⟩

theorem holds : Rows.FnMadeOneSaid :=
  OpenClaim.holds_of_wide 3 Try.f3 rfl rfl rfl rfl rfl rfl rfl ⟨rfl, rfl, rfl, rfl, rfl⟩ rfl rfl rfl rfl rfl (by kernel_rfl) Try.func3 (by kernel_rfl)
    (of_decide_eq_true (by kernel_rfl)) (by unfold Func.isWrapper; first | (rw [if_pos (by decide +kernel)]; kernel_rfl) | (rw [if_neg (by decide +kernel)]; exact ⟨rfl, rfl⟩))
    (fun os started H enc _ => lifted os started H enc)
end fnMadeOne
end Go.Proofs.Ytonofgpghfolpaa
