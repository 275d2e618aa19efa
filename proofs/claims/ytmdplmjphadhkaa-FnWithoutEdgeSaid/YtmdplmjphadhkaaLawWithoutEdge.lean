/- The law FnWithoutEdge holds of every code: without an edge there is a net with one edge fewer, and one fewer at both ends of the edge; where there is no such edge the zero value and false. -/
import Derived.Test.YtmdplmjphadhkaaBytes
import Derived.Test.YtmdplmjphadhkaaDrawFns
import Derived.Test.YtmdplmjphadhkaaWithout2
import Derived.Test.YtmdplmjphadhkaaSame
import Derived.Test.YtmdplmjphadhkaaClass
namespace Go.Proofs.Ytmdplmjphadhkaa
open Go.RowKit

theorem withoutEdge_is (n a : Int) (A : Option Addr) (cap : Nat) (es : List (Int × Int)) (w : World) (hes : EdgesIn w w.heap.size A es) (hl : es.length ≤ 1048576) (hc : es.length ≤ cap) (n' : Int) (es' : List (Int × Int)) (b : Bool)
    (h : wN n es a = n' ∧ wE n es a = es' ∧ atOkB n es a = b) :
    Calls Try.prog 29 #[.agg #[.int .i64 n, .slice A es.length cap], .int .i64 a] w (MadeNetB w n' es' b) := by
  obtain ⟨rfl, rfl, rfl⟩ := h
  exact withoutEdge_any n a A cap es w hes hl hc
theorem specWithoutEdge_is (n a : Int) (A : Option Addr) (cap : Nat) (es : List (Int × Int)) (w : World) (hes : EdgesIn w w.heap.size A es) (hl : es.length ≤ 1048576) (hc : es.length ≤ cap) (n' : Int) (es' : List (Int × Int)) (b : Bool)
    (h : wN n es a = n' ∧ wE n es a = es' ∧ atOkB n es a = b) :
    Calls Try.prog 30 #[.agg #[.int .i64 n, .slice A es.length cap], .int .i64 a] w (MadeNetB w n' es' b) := by
  obtain ⟨rfl, rfl, rfl⟩ := h
  exact specWithoutEdge_any n a A cap es w hes hl hc
theorem edgesAt_val (n v : Int) (A : Option Addr) (cap : Nat) (es : List (Int × Int)) (w : World) (hes : EdgesIn w w.heap.size A es) (hl : es.length ≤ 1048576) (m : Int) (h : degI n es v = m) :
    Calls Try.prog 26 #[.agg #[.int .i64 n, .slice A es.length cap], .int .i64 v] w fun e w' => e = .returned (.int .i64 m) ∧ Below w.heap.size w w' := h ▸ edgesAt_any n v A cap es w hes hl
theorem netOk_val (n : Int) (A : Option Addr) (cap : Nat) (es : List (Int × Int)) (w : World) (hes : EdgesIn w w.heap.size A es) (hl : es.length ≤ 1048576) (b : Bool) (h : netOkB n es = b) :
    Calls Try.prog 16 #[.agg #[.int .i64 n, .slice A es.length cap]] w fun e w' => e = .returned (.bool b) ∧ Below w.heap.size w w' := h ▸ netOk_any n A cap es w hes hl

/-- What taking an edge away does to the counts. -/
theorem without_facts {n : Int} {es : List (Int × Int)} {k : Nat} (hn : netOkB n es = true) (hk : k < es.length) :
    netOkB n (es.take k ++ es.drop (k + 1)) = true ∧ (es.take k ++ es.drop (k + 1)).length + 1 = es.length ∧
    ∀ v : Int, (v = es[k].1 ∨ v = es[k].2) → ∃ M : Int, degI n es v = M ∧ degI n (es.take k ++ es.drop (k + 1)) v = M - 1 ∧ 0 ≤ M ∧ M ≤ 9 := by
  obtain ⟨⟨n2, n6⟩, h9, hev⟩ := netOkB_iff.1 hn
  have hsplit : es = es.take k ++ (es[k] :: es.drop (k + 1)) := by rw [← List.drop_eq_getElem_cons hk, List.take_append_drop]
  have hl : (es.take k ++ es.drop (k + 1)).length + 1 = es.length := by simp; omega
  have hn' : netOkB n (es.take k ++ es.drop (k + 1)) = true := by
    refine netOkB_iff.2 ⟨⟨n2, n6⟩, by omega, fun e he => hev e ?_⟩
    rw [List.mem_append] at he
    rcases he with he | he
    · exact List.mem_of_mem_take he
    · exact List.mem_of_mem_drop he
  refine ⟨hn', hl, fun v hv => ?_⟩
  have he := hev es[k] (List.getElem_mem hk)
  have hv1 : 1 ≤ v ∧ v ≤ n := by rcases hv with rfl | rfl <;> omega
  have hend : endB v es[k] = true := by rcases hv with rfl | rfl <;> simp [endB]
  have hc : es.countP (endB v) = (es.take k ++ es.drop (k + 1)).countP (endB v) + 1 := by
    conv => lhs; rw [hsplit]
    rw [List.countP_append, List.countP_append, List.countP_cons, if_pos hend]; omega
  have hle : es.countP (endB v) ≤ es.length := List.countP_le_length
  refine ⟨(es.countP (endB v) : Nat), by simp [degI, nodeOkB, hn, hv1.1, hv1.2], ?_, by omega, by omega⟩
  simp only [degI, nodeOkB, hn', hv1.1, hv1.2, decide_true, Bool.and_self, if_true, hc]
  omega

/-- The law's three boxes: its net, the net without the edge, the edge. -/
def Three (w1 w2 : World) (n : Int) (A1 : Option Addr) (c : Nat) (es : List (Int × Int)) (n' : Int) (A5 : Option Addr) (c5 : Nat) (es' : List (Int × Int)) (b9 : Nat) (e : Int × Int) (u : World) : Prop :=
  ArgNet w1 u n A1 c es ∧ ArgNet w2 u n' A5 c5 es' ∧ u.cell? ⟨b9, 0, none⟩ = some (.int .i64 e.1) ∧ u.cell? ⟨b9, 1, none⟩ = some (.int .i64 e.2) ∧ b9 < u.heap.size
theorem Three.on {w1 w2 : World} {n : Int} {A1 : Option Addr} {c : Nat} {es : List (Int × Int)} {n' : Int} {A5 : Option Addr} {c5 : Nat} {es' : List (Int × Int)} {b9 : Nat} {e : Int × Int} {u : World} (h : Three w1 w2 n A1 c es n' A5 c5 es' b9 e u) :
    ∀ w', Below u.heap.size u w' → Three w1 w2 n A1 c es n' A5 c5 es' b9 e w' := fun w' hb => by
  obtain ⟨a1, a2, a3, a4, a5⟩ := h
  exact ⟨a1.on _ hb, a2.on _ hb, (hb.cell (p := ⟨b9, 0, none⟩) a5).trans a3, (hb.cell (p := ⟨b9, 1, none⟩) a5).trans a4, Nat.lt_of_lt_of_le a5 hb.size⟩

set_option maxRecDepth 100000 in
set_option maxHeartbeats 4000000 in
theorem withoutEdge_law (A : Option Addr) (cap l : Nat) (w : World) (hb : BytesIn w w.heap.size A l) (hc : l ≤ cap) :
    Calls Try.prog 7 #[.slice A l cap] w fun e w' => e = .returned (.bool true) ∧ Below w.heap.size w w' := by
  by_cases hbig : 1048576 < l
  · go_enter Try.func7, Try.ntmps7
    go_wp2
    go_returns
    exact ⟨rfl, Below.refl _ _⟩
  · have hl : l ≤ 1048576 := by omega
    clear hbig
    go_enter Try.func7, Try.ntmps7
    go_wp2_with fail
    refine (drawWithoutEdge_any _ _ _ _ hb hl hc).mono ?_
    rintro e1 w1 ⟨n, A1, c, es, s, rfl, own, n1, n7, hle, sl, sh, hb1⟩
    have L1 := ArgNet.start (cap := c) (n := n) 25 own.edges
    have hcap := own.cap
    have HB := Lib.hid hb1
    have hle' : es.length ≤ 1048576 := by omega
    have s1 := hb1.size
    clear own hb hb1
    by_cases hok : atOkB n es s = true
    · have hh := hok
      simp only [atOkB, Bool.and_eq_true, decide_eq_true_eq] at hh
      obtain ⟨hn, ha0, ha1⟩ := hh
      obtain ⟨k, rfl⟩ : ∃ k : Nat, s = k := ⟨s.toNat, by omega⟩
      have hk : k < es.length := by omega
      obtain ⟨f1, f2, f3⟩ := without_facts hn hk
      obtain ⟨n', es', HW, HE⟩ : ∃ n' es', Hid (wN n es k = n' ∧ wE n es k = es' ∧ atOkB n es k = true) ∧ Hid (n' = n ∧ es' = es.take k ++ es.drop (k + 1)) := ⟨n, _, ⟨by simp [wN, hok], by simp [wE, hok], hok⟩, ⟨rfl, rfl⟩⟩
      have hn'n : n' = n := HE.out.1
      rw [← HE.out.2] at f1 f2 f3
      obtain ⟨M1, p1, p2, p3, p4⟩ := f3 _ (.inl rfl)
      obtain ⟨M2v, r1, r2, r3, r4⟩ := f3 _ (.inr rfl)
      have hle2 : es'.length ≤ 1048576 := by omega
      rw [← hn'n] at f1 p1 p2 r1 r2
      have hlen : ((es'.length : Int) == (es.length : Int) - 1) = true := by simp; omega
      have F1 := Lib.hid f1
      have P1 := Lib.hid p1
      have P2 := Lib.hid p2
      have R1 := Lib.hid r1
      have R2 := Lib.hid r2
      have hget : Hid (es[k]? = some es[k]) := List.getElem?_eq_getElem hk
      generalize es[k] = e at *
      subst hn'n
      clear hok hn ha0 ha1 f1 f2 f3 p1 p2 r1 r2 HE
      go_wp2_with fail
      refine (withoutEdge_is _ _ _ _ _ _ L1.edges hle' hcap n' es' true HW.out).mono ?_
      rintro e2 w2 ⟨A5, c5, rfl, own2, hb2⟩
      have L2 := L1.step hb2 L1.lt
      have M2 := ArgNet.start (cap := c5) (n := n') 25 own2.edges
      have L3 := L2.step ((Below.refl _ _).alloc (Nat.le_refl _) (.cells #[.int .i64 n', .slice A5 es'.length c5] 25)) L2.lt
      have c0 := L2.c0
      have c1 := L2.c1
      have s2 := L2.lt
      clear hb2 own2 L1 L2
      obtain ⟨W3, hW3⟩ : ∃ W3, W3 = w2.alloc (.cells #[.int .i64 n', .slice A5 es'.length c5] 25) := ⟨_, rfl⟩
      go_wp2_with fail
      rw [← hW3] at L3 M2 ⊢
      clear hW3 c0 c1 s2
      refine (specWithoutEdge_is _ _ _ _ _ _ L3.edges hle' hcap n' es' true HW.out).mono ?_
      rintro e4 w4 ⟨A7, c7, rfl, own4, hb4⟩
      have L4 := L3.step hb4 L3.lt
      have M4 := M2.step hb4 M2.lt
      have N4 := ArgNet.start (cap := c7) (n := n') 25 own4.edges
      have L5 := L4.step ((Below.refl _ _).alloc (Nat.le_refl _) (.cells #[.int .i64 n', .slice A7 es'.length c7] 25)) L4.lt
      have M5 := M4.step ((Below.refl _ _).alloc (Nat.le_refl _) (.cells #[.int .i64 n', .slice A7 es'.length c7] 25)) M4.lt
      clear hb4 own4 L3 L4 M2 M4
      obtain ⟨W5, hW5⟩ : ∃ W5, W5 = w4.alloc (.cells #[.int .i64 n', .slice A7 es'.length c7] 25) := ⟨_, rfl⟩
      go_upto_region 6 with (fail)
      rw [← hW5] at L5 M5 N4 ⊢
      clear hW5
      have c0 := L5.c0
      have c1 := L5.c1
      have m0 := M5.c0
      have m1 := M5.c1
      have k0 := N4.c0
      have k1 := N4.c1
      go_wp2_with fail
      refine (sameNet_self _ _ _ _ _ _ _ M5.edges N4.edges hle2).mono ?_
      rintro e6 w6 ⟨rfl, hb6⟩
      have L6 := L5.step hb6 L5.lt
      have M6 := M5.step hb6 M5.lt
      clear hb6 L5 M5 N4 c0 c1 m0 m1 k0 k1
      have c0 := L6.c0
      have c1 := L6.c1
      have m0 := M6.c0
      have m1 := M6.c1
      have s6 := L6.lt
      have t6 := M6.lt
      obtain ⟨b, off, hA1, hbb, g1, g2⟩ := L6.at_ k e hget.out
      subst hA1
      go_wp2_with fail
      have T0 : Three w1 w2 n' (some ⟨b, off, none⟩) c es n' A5 c5 es' w6.heap.size e (w6.alloc (.cells #[.int .i64 e.1, .int .i64 e.2] 38)).drew := by
        have hb7 := ((Below.refl w6.heap.size w6).alloc (Nat.le_refl _) (.cells #[.int .i64 e.1, .int .i64 e.2] 38)).drew
        refine ⟨L6.step hb7 s6, M6.step hb7 t6, ?_, ?_, by simp⟩
        · show (w6.alloc _).cell? _ = _
          rw [World.cell?_alloc_at _ _ _ _ rfl]; rfl
        · show (w6.alloc _).cell? _ = _
          rw [World.cell?_alloc_at _ _ _ _ rfl]; rfl
      refine wp_region_class (Three w1 w2 n' (some ⟨b, off, none⟩) c es n' A5 c5 es' w6.heap.size e) (by kernel_rfl) (by kernel_rfl) T0 ?_
      clear T0 c0 c1 m0 m1 g1 g2
      intro X hX f hf hex
      have c0 : ∀ x, (f x).cell? ⟨w1.heap.size, 0, none⟩ = some (.int .i64 n') := fun x => (hf x).1.c0
      have c1 : ∀ x, (f x).cell? ⟨w1.heap.size, 1, none⟩ = some (.slice (some ⟨b, off, none⟩) es.length c) := fun x => (hf x).1.c1
      have m0 : ∀ x, (f x).cell? ⟨w2.heap.size, 0, none⟩ = some (.int .i64 n') := fun x => (hf x).2.1.c0
      have m1 : ∀ x, (f x).cell? ⟨w2.heap.size, 1, none⟩ = some (.slice A5 es'.length c5) := fun x => (hf x).2.1.c1
      have x0 : ∀ x, (f x).cell? ⟨w6.heap.size, 0, none⟩ = some (.int .i64 e.1) := fun x => (hf x).2.2.1
      have x1 : ∀ x, (f x).cell? ⟨w6.heap.size, 1, none⟩ = some (.int .i64 e.2) := fun x => (hf x).2.2.2.1
      have hA : ∀ x, EdgesIn (f x) (f x).heap.size (some ⟨b, off, none⟩) es := fun x => (hf x).1.edges
      have hB : ∀ x, EdgesIn (f x) (f x).heap.size A5 es' := fun x => (hf x).2.1.edges
      have hO : ∀ x, ∀ w', Below (f x).heap.size (f x) w' → Three w1 w2 n' (some ⟨b, off, none⟩) c es n' A5 c5 es' w6.heap.size e w' := fun x => (hf x).on
      repeat (go_big_quiet_step (first
        | (go_at_call 16; with_reducible exact class_of hex (netOk_val _ _ _ _ _ (hB _) hle2 true F1.out) (hO _))
        | (go_at_call 26; with_reducible exact class_of hex (edgesAt_val _ _ _ _ _ _ (hB _) hle2 _ P2.out) (hO _))
        | (go_at_call 26; with_reducible exact class_of hex (edgesAt_val _ _ _ _ _ _ (hA _) hle' _ P1.out) (hO _))
        | (go_at_call 26; with_reducible exact class_of hex (edgesAt_val _ _ _ _ _ _ (hB _) hle2 _ R2.out) (hO _))
        | (go_at_call 26; with_reducible exact class_of hex (edgesAt_val _ _ _ _ _ _ (hA _) hle' _ R1.out) (hO _))))
      refine wpQuiet_nil ?_
      rintro _ ⟨x, rfl⟩
      have L7 := (hf x).1
      go_wp2_with fail
      go_returns
      exact ⟨rfl, HB.out.trans (L7.below.mono s1)⟩
    · have HW : Hid (wN n es s = 0 ∧ wE n es s = [] ∧ atOkB n es s = false) := ⟨by simp [wN, hok], by simp [wE, hok], by simpa using hok⟩
      clear hok
      obtain ⟨n', es', hn', hes'⟩ : ∃ (n' : Int) (es' : List (Int × Int)), n' = 0 ∧ es' = [] := ⟨0, [], rfl, rfl⟩
      have hle2 : es'.length ≤ 1048576 := by rw [hes']; simp
      have HW : Hid (wN n es s = n' ∧ wE n es s = es' ∧ atOkB n es s = false) := by rw [hn', hes']; exact HW
      have HN := Lib.hid hn'
      have HES := Lib.hid hes'
      clear hn' hes'
      go_wp2_with fail
      refine (withoutEdge_is _ _ _ _ _ _ L1.edges hle' hcap n' es' false HW.out).mono ?_
      rintro e2 w2 ⟨A5, c5, rfl, own2, hb2⟩
      have L2 := L1.step hb2 L1.lt
      have M2 := ArgNet.start (cap := c5) (n := n') 25 own2.edges
      have L3 := L2.step ((Below.refl _ _).alloc (Nat.le_refl _) (.cells #[.int .i64 n', .slice A5 es'.length c5] 25)) L2.lt
      have c0 := L2.c0
      have c1 := L2.c1
      have s2 := L2.lt
      clear hb2 own2 L1 L2
      obtain ⟨W3, hW3⟩ : ∃ W3, W3 = w2.alloc (.cells #[.int .i64 n', .slice A5 es'.length c5] 25) := ⟨_, rfl⟩
      go_wp2_with fail
      rw [← hW3] at L3 M2 ⊢
      clear hW3 c0 c1 s2
      refine (specWithoutEdge_is _ _ _ _ _ _ L3.edges hle' hcap n' es' false HW.out).mono ?_
      rintro e4 w4 ⟨A7, c7, rfl, own4, hb4⟩
      have L4 := L3.step hb4 L3.lt
      have M4 := M2.step hb4 M2.lt
      have N4 := ArgNet.start (cap := c7) (n := n') 25 own4.edges
      have L5 := L4.step ((Below.refl _ _).alloc (Nat.le_refl _) (.cells #[.int .i64 n', .slice A7 es'.length c7] 25)) L4.lt
      have M5 := M4.step ((Below.refl _ _).alloc (Nat.le_refl _) (.cells #[.int .i64 n', .slice A7 es'.length c7] 25)) M4.lt
      clear hb4 own4 L3 L4 M2 M4
      obtain ⟨W5, hW5⟩ : ∃ W5, W5 = w4.alloc (.cells #[.int .i64 n', .slice A7 es'.length c7] 25) := ⟨_, rfl⟩
      go_upto_region 6 with (fail)
      rw [← hW5] at L5 M5 N4 ⊢
      clear hW5
      have c0 := L5.c0
      have c1 := L5.c1
      have m0 := M5.c0
      have m1 := M5.c1
      have k0 := N4.c0
      have k1 := N4.c1
      go_wp2_with fail
      refine (sameNet_self _ _ _ _ _ _ _ M5.edges N4.edges hle2).mono ?_
      rintro e6 w6 ⟨rfl, hb6⟩
      have L6 := L5.step hb6 L5.lt
      have M6 := M5.step hb6 M5.lt
      clear hb6 L5 M5 N4 c0 c1 m0 m1 k0 k1
      have c0 := L6.c0
      have c1 := L6.c1
      have m0 := M6.c0
      have m1 := M6.c1
      have s6 := L6.lt
      have t6 := M6.lt
      go_wp2_with fail
      have hn0 := HN.out
      have he0 := HES.out
      subst hn0 he0
      refine (sameNet_self 0 A5 none c5 0 [] _ EdgesIn.nil EdgesIn.nil (by simp)).mono ?_
      rintro e7 w7 ⟨rfl, hb7⟩
      have L7 := L6.step hb7 s6
      clear hb7
      go_wp2_with fail
      refine (alive_any _).mono ?_
      rintro e8 w8 ⟨rfl, hb8⟩
      have L8 := L7.step hb8 L7.lt
      clear hb8
      go_wp2_with fail
      go_returns
      exact ⟨rfl, HB.out.trans (L8.below.mono s1)⟩

namespace fnWithoutEdge
open Go.ChangeShapes Go.WideShapes Go.ChangeAt Go.RowKit Go.Deep Go.Joins
set_option linter.unusedVariables false
set_option maxRecDepth 100000 in
theorem lifted (os : Os) (started : os.Started) (H : Type) (enc : TypeId × Value → H) :
    ReturnsInHanded {} Try.checked os 7 .any (Rows.fnWithoutEdgeSpec.pre6 enc Try.prog Try.f7 Rows.fnWithoutEdgeRow.domain false) (Rows.fnWithoutEdgeSpec.post enc Try.prog Try.f7 false true false false) := by
  refine returnsInHanded_of_change (C := Try.checked) own started (by kernel_rfl) Try.func7
    (ChangeSpec.witness6 (enc := enc) (C := Try.checked) false ⟨#[], #[.slice none 0 0], []⟩ 8 (by kernel_rfl) (by kernel_rfl) (by kernel_rfl) (by kernel_rfl)) ?_
  intro W base args ds gs before hval0 hW hcnd _
  have hval : ∀ (j : Nat) t v, Try.f7.params[j]? = some t → args[j]? = some v → Value.okWide Try.prog W .any base t v := hval0
  have hW' := hW
  obtain ⟨p, q, hA0, hV, rfl, hfz, hnd⟩ := hW
  have hA : DataW.TrodAll enc Try.prog W 0 (fun _ => true) true Try.f7.params.toList args.toList ds p := hA0
  rw [Try.params7] at hA hval
  obtain ⟨v0, vs0, d0, ds0, p0, q0, hargs, rfl, rfl, h0, r0⟩ := trodAll_cons hA
  obtain ⟨rfl, rfl, rfl⟩ := trodAll_nil r0
  obtain rfl : args = #[v0] := by cases args; simp_all
  obtain ⟨rfl, rfl⟩ := trodVars_none hV
  have k0 := h0
  have lt0 : ∀ x ∈ p0, x.block < W.heap.size := by obtain ⟨m, hm⟩ := k0; exact DataW.trod_lt m _ _ _ hm
  obtain ⟨A0, c0, bs0, rfl, hb0, hl0⟩ := open_bytes (hval 0 22 v0 rfl rfl) h0
  clear hA0 hval0
  refine (withoutEdge_law A0 c0 bs0 W hb0 hl0).mono fun e W' ⟨he, bel⟩ => ?_
  subst he
  exact ⟨_, rfl, _, _, _, [], _, [], hW', trodAll_mk1 (shut_bool Try.underlying4 _), (trodAll_cons_mk (Below.trod laidOut (by kernel_rfl) (of_decide_eq_true (by kernel_rfl)) k0 bel lt0) trodAll_mk0), rfl, bel.frame _, fun h => by cases h⟩

theorem holds : Rows.FnWithoutEdgeSaid :=
  OpenClaim.holds_of_wide 7 Try.f7 rfl rfl rfl rfl rfl rfl rfl ⟨rfl, rfl, rfl, rfl, rfl⟩ rfl rfl rfl rfl rfl (by kernel_rfl) Try.func7 (by kernel_rfl)
    (of_decide_eq_true (by kernel_rfl)) (by unfold Func.isWrapper; first | (rw [if_pos (by decide +kernel)]; kernel_rfl) | (rw [if_neg (by decide +kernel)]; exact ⟨rfl, rfl⟩))
    (fun os started H enc _ => lifted os started H enc)
end fnWithoutEdge
end Go.Proofs.Ytmdplmjphadhkaa
