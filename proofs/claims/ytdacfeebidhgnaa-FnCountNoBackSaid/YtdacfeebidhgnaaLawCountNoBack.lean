/- The law FnCountNoBack holds of every code: the program answers as the reference does; for each edge of a net of three nodes or more that alone has its ends the number is that without the edge and that with its ends made one, added; without edges it is 1, and else even. -/
import Derived.Test.YtdacfeebidhgnaaBytes
import Derived.Test.YtdacfeebidhgnaaDraw10
import Derived.Test.YtdacfeebidhgnaaImpl10d
import Derived.Test.YtdacfeebidhgnaaClass
import Derived.Test.YtdacfeebidhgnaaSplit10
import Derived.Test.YtdacfeebidhgnaaSpec10c
import Derived.Test.YtdacfeebidhgnaaObj
namespace Go.Proofs.Ytdacfeebidhgnaa
open Go.RowKit
set_option maxRecDepth 100000

theorem away_net {n : Int} {es : List (Int × Int)} {k : Nat} (hn : netOkB n es = true) (hk : k < es.length) : netOkB n (es.take k ++ es.drop (k + 1)) = true ∧ (es.take k ++ es.drop (k + 1)).length + 1 = es.length := by
  obtain ⟨⟨n2, n6⟩, h9, hev⟩ := netOkB_iff.1 hn
  have hl : (es.take k ++ es.drop (k + 1)).length + 1 = es.length := by simp; omega
  refine ⟨netOkB_iff.2 ⟨⟨n2, n6⟩, by omega, fun e he => hev e ?_⟩, hl⟩
  rw [List.mem_append] at he
  rcases he with he | he
  · exact List.mem_of_mem_take he
  · exact List.mem_of_mem_drop he
theorem noBackI_bound {n : Int} {es : List (Int × Int)} (h : netOkB n es = true) : 0 ≤ noBackI n es ∧ noBackI n es ≤ 512 := by
  obtain ⟨P, hP, p1, p2, -, -⟩ := pow_named (show es.length ≤ 9 from (netOkB_iff.1 h).2.1)
  unfold noBackI
  rw [if_pos h, hP]
  have := cP_le (noBackQ es) P
  omega
/-- An edge that alone has its ends: without it, and with its ends made one. -/
theorem noBack_round {n : Int} {es : List (Int × Int)} (hn : netOkB n es = true) {k : Nat} (hk : k < es.length) (h3 : 3 ≤ n) :
    ∃ (le me : List (Int × Int)) (lf a b : Int), wN n es k = n ∧ wE n es k = le ∧ atOkB n es k = true ∧ mN n es k = n - 1 ∧ mE n es k = me ∧ mL n es k = lf ∧ mOk n es k = true ∧ le.length ≤ 1048576 ∧ me.length ≤ 1048576 ∧
      noBackI n le = a ∧ netOkB n le = true ∧ noBackI (n - 1) me = b ∧ netOkB (n - 1) me = true ∧ ((lf == 0) = true → a + b = noBackI n es) ∧ (0 ≤ a ∧ a ≤ 512) ∧ (0 ≤ b ∧ b ≤ 512) := by
  have hat : atOkB n es k = true := by simp [atOkB, hn, hk]
  have hmo : mOk n es k = true := by simp [mOk, hat, h3]
  have hgd : es.getD (k : Int).toNat (0, 0) = es[k] := by simp [List.getD, hk]
  obtain ⟨hln, hll⟩ := away_net hn hk
  obtain ⟨hmn, hml, hc1, hc9, -⟩ := made_facts hn h3 hk
  have h9 := (netOkB_iff.1 hn).2.1
  refine ⟨_, _, _, _, _, if_pos hat, if_pos hat, hat, if_pos hmo, if_pos hmo, if_pos hmo, hmo, ?_, ?_, rfl, ?_, rfl, ?_, ?_, ?_, ?_⟩
  · rw [Int.toNat_natCast]; omega
  · rw [hgd]; omega
  · rw [Int.toNat_natCast]; exact hln
  · rw [hgd]; exact hmn
  · rw [hgd, Int.toNat_natCast]
    intro hlf
    have hone : es.countP (fun e => eqEB e es[k]) = 1 := by have := beq_iff_eq.1 hlf; omega
    obtain ⟨l1, l2, g, e1, e2, hed, hg, e3⟩ := net_split hn h3 hk
    have e3 := e3 hone
    rw [noBackI_ok hn, noBackI_ok hln, noBackI_ok hmn, e1, e2, e3, acy_split hg hed, Int.natCast_add]
  · rw [Int.toNat_natCast]; exact noBackI_bound hln
  · rw [hgd]; exact noBackI_bound hmn

/-- The boxes of a round: the net, the one without an edge, and the one with its ends made one. -/
def RdAt (w1 v u : World) (n : Int) (A : Option Addr) (c : Nat) (es : List (Int × Int)) (g : Nat) (n2 : Int) (A2 : Option Addr) (c2 : Nat) (le : List (Int × Int)) (h : Nat) (n3 : Int) (A3 : Option Addr) (c3 : Nat) (me : List (Int × Int)) : Prop :=
  (ArgNet w1 u n A c es ∧ Below v.heap.size v u) ∧ (u.cell? ⟨g, 0, none⟩ = some (.int .i64 n2) ∧ u.cell? ⟨g, 1, none⟩ = some (.slice A2 le.length c2) ∧ EdgesIn u u.heap.size A2 le ∧ g < u.heap.size) ∧
    (u.cell? ⟨h, 0, none⟩ = some (.int .i64 n3) ∧ u.cell? ⟨h, 1, none⟩ = some (.slice A3 me.length c3) ∧ EdgesIn u u.heap.size A3 me ∧ h < u.heap.size)
theorem RdAt.on {w1 v u : World} {n : Int} {A : Option Addr} {c : Nat} {es : List (Int × Int)} {g : Nat} {n2 : Int} {A2 : Option Addr} {c2 : Nat} {le : List (Int × Int)} {h : Nat} {n3 : Int} {A3 : Option Addr} {c3 : Nat} {me : List (Int × Int)}
    (H : RdAt w1 v u n A c es g n2 A2 c2 le h n3 A3 c3 me) : ∀ u', Below u.heap.size u u' → RdAt w1 v u' n A c es g n2 A2 c2 le h n3 A3 c3 me := fun _ hb =>
  ⟨⟨H.1.1.on _ hb, H.1.2.trans (hb.mono H.1.2.size)⟩,
    ⟨(hb.cell (p := ⟨g, 0, none⟩) H.2.1.2.2.2).trans H.2.1.1, (hb.cell (p := ⟨g, 1, none⟩) H.2.1.2.2.2).trans H.2.1.2.1, H.2.1.2.2.1.below hb (Nat.le_refl _) |>.more hb.size, Nat.lt_of_lt_of_le H.2.1.2.2.2 hb.size⟩,
    ⟨(hb.cell (p := ⟨h, 0, none⟩) H.2.2.2.2.2).trans H.2.2.1, (hb.cell (p := ⟨h, 1, none⟩) H.2.2.2.2.2).trans H.2.2.2.1, H.2.2.2.2.1.below hb (Nat.le_refl _) |>.more hb.size, Nat.lt_of_lt_of_le H.2.2.2.2.2 hb.size⟩⟩
theorem noBack_even {n : Int} {es : List (Int × Int)} (hn : netOkB n es = true) : (es.length = 0 ∧ noBackI n es = 1) ∨ (0 < es.length ∧ ¬ noBackI n es = 1 ∧ (noBackI n es).tmod 2 = 0) := by
  rw [noBackI_ok hn]
  by_cases h : es.length = 0
  · obtain rfl := List.eq_nil_of_length_eq_zero h
    exact .inl ⟨rfl, by rw [show endsL ([] : List (Int × Int)) = [] from rfl, acy_none]; rfl⟩
  · have h1 := acy_even (es := endsL es) (fun x => x) (by rw [endsL_length]; omega)
    generalize acyN (fun x => x) (endsL es) = m at *
    refine .inr ⟨by omega, by omega, ?_⟩
    rw [Int.tmod_eq_emod_of_nonneg (Int.natCast_nonneg _)]
    omega

set_option maxHeartbeats 8000000 in
theorem countNoBack_law (A : Option Addr) (cap l : Nat) (w : World) (hb : BytesIn w w.heap.size A l) (hc : l ≤ cap) :
    Calls Try.prog 10 #[.slice A l cap] w fun e w' => e = .returned (.bool true) ∧ Below w.heap.size w w' := by
  by_cases hbig : 1048576 < l
  · go_enter Try.func10, Try.ntmps10
    go_wp2
    go_returns
    exact ⟨rfl, Below.refl _ _⟩
  · have hl : l ≤ 1048576 := by omega
    clear hbig
    go_enter Try.func10, Try.ntmps10
    go_wp2_with fail
    refine (drawCountNoBack_any _ _ _ _ hb hl hc).mono ?_
    rintro e1 w1 ⟨n, A1, c, es, rfl, ed, n1, n7, hle, hcap, hb1⟩
    have L1 := ArgNet.start (cap := c) (n := n) 29 (ed.edges (Nat.le_refl _))
    have HB := Lib.hid hb1
    have hle' : es.length ≤ 1048576 := by omega
    have s1 := hb1.size
    clear ed hb hb1
    have HI : Hid (∀ u, EdgesIn u u.heap.size A1 es → Calls Try.prog 18 #[.agg #[.int .i64 n, .slice A1 es.length c]] u fun e w' => e = .returned (.int .i64 (noBackI n es)) ∧ Below u.heap.size u w') := fun u h => countNoBack_any n A1 c es u h hle'
    have HS : Hid (∀ u, EdgesIn u u.heap.size A1 es → Calls Try.prog 16 #[.agg #[.int .i64 n, .slice A1 es.length c]] u fun e w' => e = .returned (.int .i64 (noBackI n es)) ∧ Below u.heap.size u w') := fun u h => specCountNoBack_any n A1 c es u h hle'
    have HFL : Hid (∀ (n : Int) (A : Option Addr) (c : Nat) (es : List (Int × Int)) (u : World), es.length ≤ 1048576 → EdgesIn u u.heap.size A es → Calls Try.prog 18 #[.agg #[.int .i64 n, .slice A es.length c]] u fun e w' => e = .returned (.int .i64 (noBackI n es)) ∧ Below u.heap.size u w') := fun n A c es u h1 h => countNoBack_any n A c es u h h1
    have HN : Hid (∀ u, EdgesIn u u.heap.size A1 es → Calls Try.prog 37 #[.agg #[.int .i64 n, .slice A1 es.length c]] u fun e w' => e = .returned (.bool (netOkB n es)) ∧ Below u.heap.size u w') := fun u h => netOk_any n A1 c es u h hle'
    cases hok : netOkB n es with
    | false =>
      have hv : noBackI n es = -1 := if_neg (by rw [hok]; simp)
      rw [hv] at HI HS
      rw [hok] at HN
      have c0 := L1.c0
      have c1 := L1.c1
      go_wp2_with fail
      refine (HI.out _ L1.edges).mono ?_
      rintro e2 w2 ⟨rfl, hb2⟩
      have L2 := L1.step hb2 L1.lt
      clear hb2 L1 c0 c1
      have c0 := L2.c0
      have c1 := L2.c1
      go_wp2_with fail
      refine (HS.out _ L2.edges).mono ?_
      rintro e3 w3 ⟨rfl, hb3⟩
      have L3 := L2.step hb3 L2.lt
      clear hb3 L2 c0 c1
      have c0 := L3.c0
      have c1 := L3.c1
      go_wp2_with fail
      refine (HN.out _ L3.edges).mono ?_
      rintro e4 w4 ⟨rfl, hb4⟩
      have L4 := L3.step hb4 L3.lt
      clear hb4 L3 c0 c1
      go_wp2_with fail
      refine (alive_any _).mono ?_
      rintro e5 w5 ⟨rfl, hb5⟩
      have L5 := L4.step hb5 L4.lt
      go_wp2_with fail
      go_returns
      exact ⟨by first | rfl | simp, HB.out.trans (L5.below.mono s1)⟩
    | true =>
      have HW : Hid (∀ (k : Nat) (u : World), EdgesIn u u.heap.size A1 es → Calls Try.prog 39 #[.agg #[.int .i64 n, .slice A1 es.length c], .int .i64 k] u (MadeNetB u (wN n es k) (wE n es k) (atOkB n es k))) := fun k u h => withoutEdge_any n k A1 c es u h hle' hcap
      have HM : Hid (∀ (k : Nat) (u : World), EdgesIn u u.heap.size A1 es → ∀ n' es' l b, mN n es k = n' ∧ mE n es k = es' ∧ mL n es k = l ∧ mOk n es k = b → Calls Try.prog 40 #[.agg #[.int .i64 n, .slice A1 es.length c], .int .i64 k] u (GotMade u n' es' l b)) := fun k u h n' es' l b hh => madeOne_is n k A1 c es u h hle' n' es' l b hh
      have HR : Hid (∀ k, k < es.length → 3 ≤ n → _) := fun k hk h3 => noBack_round hok hk h3
      obtain ⟨z0, z1⟩ := noBackI_bound hok
      have HE := Lib.hid (noBack_even hok)
      clear HN
      generalize noBackI n es = Z at *
      have c0 := L1.c0
      have c1 := L1.c1
      clear hok
      go_wp2_with fail
      refine (HI.out _ L1.edges).mono ?_
      rintro e2 w2 ⟨rfl, hb2⟩
      have L2 := L1.step hb2 L1.lt
      clear hb2 L1 c0 c1
      have c0 := L2.c0
      have c1 := L2.c1
      go_wp2_with fail
      refine (HS.out _ L2.edges).mono ?_
      rintro e3 w3 ⟨rfl, hb3⟩
      have L3 := L2.step hb3 L2.lt
      clear hb3 L2 c0 c1
      have c0 := L3.c0
      have c1 := L3.c1
      go_wp2_with fail
      go_loopw [5] (fun i wr => ∃ k : Nat, k ≤ es.length ∧ i = .int .i64 (k : Nat) ∧ ArgNet w1 wr n A1 c es) (fun i _ => es.length - (intOf i).toNat)
      case atStart => exact ⟨0, by omega, rfl, L3⟩
      case round =>
        clear L3 c0 c1
        obtain ⟨k, hk, rfl, L⟩ := hrel
        have c0 := L.c0
        have c1 := L.c1
        by_cases hkl : k < es.length
        · by_cases h3 : 3 ≤ n
          · obtain ⟨le, me, lf, a, b, r1, r2, r3, r4, r5, r6, r7, r8, r9, r10, r11, r12, r13, r14, ra, rb⟩ := HR.out k hkl h3
            have HW4 := Lib.hid (HW.out k)
            rw [r1, r2, r3] at HW4
            have HM4 := Lib.hid (fun u h => HM.out k u h (n - 1) me lf true ⟨r4, r5, r6, r7⟩)
            have HFA := Lib.hid (fun A c u => HFL.out n A c le u r8)
            have HFB := Lib.hid (fun A c u => HFL.out (n - 1) A c me u r9)
            rw [r10] at HFA
            rw [r12] at HFB
            have wz : IntKind.i64.wrap (a + b) = a + b := IntWalk.i64_in _ (by omega)
            have HZ : Hid ((lf == 0) = true → a + b = Z) := r14
            clear r1 r2 r3 r4 r5 r6 r7 r8 r9 r10 r11 r12 r13 r14
            go_wp2_with fail
            refine (HW4.out _ L.edges).mono ?_
            rintro e4 w4 ⟨A4, k4, rfl, own4, hb4⟩
            have L4 := L.step hb4 L.lt
            have X5 := NetAt.start (n := n) 29 own4
            have hbx := (Below.refl w4.heap.size w4).alloc (Nat.le_refl _) (.cells #[.int .i64 n, .slice A4 le.length k4] 29)
            have L5 := L4.step hbx L4.lt
            clear hb4 L c0 c1 own4 hbx
            have c0 := L4.c0
            have c1 := L4.c1
            have lw := L4.lt
            go_wp2_with fail
            clear c0 c1 lw L4
            obtain ⟨W5, hW5⟩ : ∃ W5, W5 = w4.alloc (.cells #[.int .i64 n, .slice A4 le.length k4] 29) := ⟨_, rfl⟩
            rw [← hW5] at L5 X5 ⊢
            clear hW5
            generalize w4.heap.size = g4 at *
            refine (HM4.out _ L5.edges).mono ?_
            rintro e6 w6 ⟨A6, k6, rfl, own6, hb6⟩
            have L6 := L5.step hb6 L5.lt
            have X6 := X5.step hb6 X5.lt
            have Y7 := NetAt.start (n := n - 1) 29 own6
            have hbx := (Below.refl w6.heap.size w6).alloc (Nat.le_refl _) (.cells #[.int .i64 (n - 1), .slice A6 me.length k6] 29)
            have L7 := L6.step hbx L6.lt
            have X7 := X6.step hbx X6.lt
            clear hb6 L5 X5 own6 hbx
            have c0 := L6.c0
            have c1 := L6.c1
            have lw := L6.lt
            have d0 := X6.c0
            have d1 := X6.c1
            have dl := X6.lt
            go_wp2_with fail
            clear c0 c1 lw d0 d1 dl L6 X6
            obtain ⟨W7, hW7⟩ : ∃ W7, W7 = w6.alloc (.cells #[.int .i64 (n - 1), .slice A6 me.length k6] 29) := ⟨_, rfl⟩
            rw [← hW7] at L7 X7 Y7 ⊢
            clear hW7
            generalize w6.heap.size = g6 at *
            have D7 : RdAt w1 w1 W7 n A1 c es g4 n A4 k4 le g6 (n - 1) A6 k6 me := ⟨⟨L7, L7.below⟩, ⟨X7.c0, X7.c1, X7.edges, X7.lt⟩, ⟨Y7.c0, Y7.c1, Y7.edges, Y7.lt⟩⟩
            clear L7 X7 Y7
            cases hlf : (lf == 0) with
            | false =>
              have hlf2 : ¬ lf = 0 := beq_eq_false_iff_ne.1 hlf
              go_wp2_with fail
              have HAA : Hid (∀ u, RdAt w1 w1 u n A1 c es g4 n A4 k4 le g6 (n - 1) A6 k6 me → _) := fun u h => HFA.out A4 k4 u h.2.1.2.2.1
              have HBB : Hid (∀ u, RdAt w1 w1 u n A1 c es g4 n A4 k4 le g6 (n - 1) A6 k6 me → _) := fun u h => HFB.out A6 k6 u h.2.2.2.2.1
              refine wp_region_class (fun u => RdAt w1 w1 u n A1 c es g4 n A4 k4 le g6 (n - 1) A6 k6 me) (by kernel_rfl) (by kernel_rfl) (D7.on _ ((Below.refl _ _).drew)) ?_
              intro X hX f hf hex
              have c0 : ∀ x, (f x).cell? ⟨g4, 0, none⟩ = some (.int .i64 n) := fun x => (hf x).2.1.1
              have c1 : ∀ x, (f x).cell? ⟨g4, 1, none⟩ = some (.slice A4 le.length k4) := fun x => (hf x).2.1.2.1
              have c2 : ∀ x, (f x).cell? ⟨g6, 0, none⟩ = some (.int .i64 (n - 1)) := fun x => (hf x).2.2.1
              have c3 : ∀ x, (f x).cell? ⟨g6, 1, none⟩ = some (.slice A6 me.length k6) := fun x => (hf x).2.2.2.1
              repeat (go_big_quiet_step (first | (go_at_call 18; with_reducible exact class_of hex (HAA.out _ (hf _)) (hf _).on) | (go_at_call 18; with_reducible exact class_of hex (HBB.out _ (hf _)) (hf _).on)))
              refine wpQuiet_nil ?_
              rintro _ ⟨x, rfl⟩
              have F := (hf x).1.1
              clear hf hex c0 c1 c2 c3
              go_wp2_with fail
              go_roundw
              case rel => exact ⟨k + 1, by omega, by go_num, F⟩
              case measure => simp [intOf]; omega
            | true =>
              have hzz := HZ.out hlf
              obtain rfl : lf = 0 := beq_iff_eq.1 hlf
              subst hzz
              clear hlf
              go_wp2_with fail
              have HAA : Hid (∀ u, RdAt w1 w1 u n A1 c es g4 n A4 k4 le g6 (n - 1) A6 k6 me → _) := fun u h => HFA.out A4 k4 u h.2.1.2.2.1
              have HBB : Hid (∀ u, RdAt w1 w1 u n A1 c es g4 n A4 k4 le g6 (n - 1) A6 k6 me → _) := fun u h => HFB.out A6 k6 u h.2.2.2.2.1
              refine wp_region_class (fun u => RdAt w1 w1 u n A1 c es g4 n A4 k4 le g6 (n - 1) A6 k6 me) (by kernel_rfl) (by kernel_rfl) (D7.on _ ((Below.refl _ _).drew)) ?_
              intro X hX f hf hex
              have c0 : ∀ x, (f x).cell? ⟨g4, 0, none⟩ = some (.int .i64 n) := fun x => (hf x).2.1.1
              have c1 : ∀ x, (f x).cell? ⟨g4, 1, none⟩ = some (.slice A4 le.length k4) := fun x => (hf x).2.1.2.1
              have c2 : ∀ x, (f x).cell? ⟨g6, 0, none⟩ = some (.int .i64 (n - 1)) := fun x => (hf x).2.2.1
              have c3 : ∀ x, (f x).cell? ⟨g6, 1, none⟩ = some (.slice A6 me.length k6) := fun x => (hf x).2.2.2.1
              repeat (go_big_quiet_step (first | (go_at_call 18; with_reducible exact class_of hex (HAA.out _ (hf _)) (hf _).on) | (go_at_call 18; with_reducible exact class_of hex (HBB.out _ (hf _)) (hf _).on)))
              refine wpQuiet_nil ?_
              rintro _ ⟨x, rfl⟩
              have F := (hf x).1.1
              clear hf hex c0 c1 c2 c3
              go_wp2_with fail
              go_roundw
              case rel => exact ⟨k + 1, by omega, by go_num, F⟩
              case measure => simp [intOf]; omega
          · have h3n : ¬ (3 : Int) ≤ n := h3
            rcases HE.out with ⟨e0, e1⟩ | ⟨e0, e1, e2⟩
            · omega
            · have e3 : ¬ (es.length : Int) = 0 := by omega
              have e4 : ((es.length : Int) == 0) = false := beq_eq_false_iff_ne.2 e3
              have e5 : (Z == 1) = false := beq_eq_false_iff_ne.2 e1
              go_wp2_with fail
              go_returns
              exact ⟨by first | rfl | simp, HB.out.trans (L.below.mono s1)⟩
        · obtain rfl : k = es.length := by omega
          rcases HE.out with ⟨e0, e1⟩ | ⟨e0, e1, e2⟩
          · have e3 : (es.length : Int) = 0 := by omega
            have e4 : ((es.length : Int) == 0) = true := beq_iff_eq.2 e3
            subst e1
            go_wp2_with fail
            go_returns
            exact ⟨by first | rfl | simp, HB.out.trans (L.below.mono s1)⟩
          · have e3 : ¬ (es.length : Int) = 0 := by omega
            have e4 : ((es.length : Int) == 0) = false := beq_eq_false_iff_ne.2 e3
            have e5 : (Z == 1) = false := beq_eq_false_iff_ne.2 e1
            go_wp2_with fail
            go_returns
            exact ⟨by first | rfl | simp, HB.out.trans (L.below.mono s1)⟩

namespace fnCountNoBack
open Go.ChangeShapes Go.WideShapes Go.ChangeAt Go.RowKit Go.Deep Go.Joins
set_option linter.unusedVariables false
set_option maxRecDepth 100000 in
theorem lifted (os : Os) (started : os.Started) (H : Type) (enc : TypeId × Value → H) :
    ReturnsInHanded {} Try.checked os 10 .any (Rows.fnCountNoBackSpec.pre6 enc Try.prog Try.f10 Rows.fnCountNoBackRow.domain false) (Rows.fnCountNoBackSpec.post enc Try.prog Try.f10 false true false false) := by
  refine returnsInHanded_of_change (C := Try.checked) own started (by kernel_rfl) Try.func10
    (ChangeSpec.witness6 (enc := enc) (C := Try.checked) false ⟨#[], #[.slice none 0 0], []⟩ 8 (by kernel_rfl) (by kernel_rfl) (by kernel_rfl) (by kernel_rfl)) ?_
  intro W base args ds gs before hval0 hW hcnd _
  have hval : ∀ (j : Nat) t v, Try.f10.params[j]? = some t → args[j]? = some v → Value.okWide Try.prog W .any base t v := hval0
  have hW' := hW
  obtain ⟨p, q, hA0, hV, rfl, hfz, hnd⟩ := hW
  have hA : DataW.TrodAll enc Try.prog W 0 (fun _ => true) true Try.f10.params.toList args.toList ds p := hA0
  rw [Try.params10] at hA hval
  obtain ⟨v0, vs0, d0, ds0, p0, q0, hargs, rfl, rfl, h0, r0⟩ := trodAll_cons hA
  obtain ⟨rfl, rfl, rfl⟩ := trodAll_nil r0
  obtain rfl : args = #[v0] := by cases args; simp_all
  obtain ⟨rfl, rfl⟩ := trodVars_none hV
  have k0 := h0
  have lt0 : ∀ x ∈ p0, x.block < W.heap.size := by obtain ⟨m, hm⟩ := k0; exact DataW.trod_lt m _ _ _ hm
  obtain ⟨A0, c0, bs0, rfl, hb0, hl0⟩ := open_bytes (hval 0 44 v0 rfl rfl) h0
  clear hA0 hval0
  refine (countNoBack_law A0 c0 bs0 W hb0 hl0).mono fun e W' ⟨he, bel⟩ => ?_
  subst he
  exact ⟨_, rfl, _, _, _, [], _, [], hW', trodAll_mk1 (shut_bool Try.underlying4 _), (trodAll_cons_mk (Below.trod laidOut (by kernel_rfl) (of_decide_eq_true (by kernel_rfl)) k0 bel lt0) trodAll_mk0), rfl, bel.frame _, fun h => by cases h⟩

theorem holds : Rows.FnCountNoBackSaid :=
  OpenClaim.holds_of_wide 10 Try.f10 rfl rfl rfl rfl rfl rfl rfl ⟨rfl, rfl, rfl, rfl, rfl⟩ rfl rfl rfl rfl rfl (by kernel_rfl) Try.func10 (by kernel_rfl)
    (of_decide_eq_true (by kernel_rfl)) (by unfold Func.isWrapper; first | (rw [if_pos (by decide +kernel)]; kernel_rfl) | (rw [if_neg (by decide +kernel)]; exact ⟨rfl, rfl⟩))
    (fun os started H enc _ => lifted os started H enc)
end fnCountNoBack
end Go.Proofs.Ytdacfeebidhgnaa
