/- The law FnBackOk holds of every code: the program answers as the reference does; with all arrows turned it is the same; with none turned one never comes back; and what never leads back does not without the last edge. -/
import Derived.Test.YtgacgaidlbkkmaaBytes
import Derived.Test.YtgacgaidlbkkmaaDraw10
import Derived.Test.YtgacgaidlbkkmaaImpl10d
import Derived.Test.YtgacgaidlbkkmaaWithout
import Derived.Test.YtgacgaidlbkkmaaObj
namespace Go.Proofs.Ytgacgaidlbkkmaa
open Go.RowKit
set_option maxRecDepth 100000

theorem backB_of {n : Int} {es : List (Int × Int)} {t : Nat} (hn : netOkB n es = true) (ht : t < 2 ^ es.length) : backB n es t = backV (endsL es) t := by
  unfold backB; rw [state_of hn ht]; rfl
theorem backB_turn {n : Int} {es : List (Int × Int)} {t : Nat} (hn : netOkB n es = true) (ht : t < 2 ^ es.length) : backB n es ((2 ^ es.length - 1 - t : Nat) : Int) = backV (endsL es) t := by
  have h2 := rest_lt es.length t
  rw [show 2 ^ es.length - 1 - t = rest es.length t from rfl, backB_of hn h2]
  refine back_turn (endsL_ok hn) fun k hk => ?_
  rw [endsL_length] at hk
  rw [rest_bit ht, decide_eq_true hk, Bool.true_and]
theorem backB_zero {n : Int} {es : List (Int × Int)} (hn : netOkB n es = true) : backB n es 0 = false := by
  have h := backB_of (t := 0) hn (Nat.pow_pos (by omega))
  have h1 := netOkB_iff.1 hn
  rw [show ((0 : Nat) : Int) = 0 from rfl] at h
  rw [h]
  refine back_none fun e he => ?_
  simp only [endsL, List.mem_map] at he
  obtain ⟨x, hx, rfl⟩ := he
  have := h1.2.2 x hx
  simp only [endN]; omega
theorem last_gone {n : Int} {es : List (Int × Int)} {k : Nat} (hn : netOkB n es = true) (hk : es.length = k + 1) :
    ∃ le : List (Int × Int), wE n es k = le ∧ wN n es k = n ∧ atOkB n es k = true ∧ netOkB n le = true ∧ le.length = k ∧ endsL le = (endsL es).take k := by
  obtain ⟨⟨n2, n6⟩, h9, hev⟩ := netOkB_iff.1 hn
  have hat : k < es.length := by omega
  have hok : atOkB n es k = true := by simp [atOkB, hn, hat]
  have hd : es.drop (k + 1) = [] := List.drop_eq_nil_of_le (by omega)
  refine ⟨es.take k, ?_, if_pos hok, hok, netOkB_iff.2 ⟨⟨n2, n6⟩, ?_, fun e he => hev e (List.mem_of_mem_take he)⟩, by simp; omega, by simp [endsL, List.map_take]⟩
  · unfold wE; rw [if_pos hok, Int.toNat_natCast, hd, List.append_nil]
  · simp; omega
theorem backB_less {n : Int} {es le : List (Int × Int)} {k t : Nat} (hn : netOkB n le = true) (hl : le.length = k) (hle : endsL le = (endsL es).take k) (hV : backV (endsL es) t = false) : backB n le ((t % 2 ^ k : Nat) : Int) = false := by
  rw [backB_of hn (by rw [hl]; exact Nat.mod_lt _ (Nat.pow_pos (by omega))), hle]
  refine back_less (fun i hi => ?_) hV
  rw [Nat.testBit_mod_two_pow, decide_eq_true hi, Bool.true_and]
/-- The boxes of the law: the net, and the one without its last edge. -/
def BkAt (w1 v u : World) (n : Int) (A : Option Addr) (c : Nat) (es : List (Int × Int)) (g : Nat) (n2 : Int) (A2 : Option Addr) (c2 : Nat) (le : List (Int × Int)) : Prop :=
  (ArgNet w1 u n A c es ∧ Below v.heap.size v u) ∧ u.cell? ⟨g, 0, none⟩ = some (.int .i64 n2) ∧ u.cell? ⟨g, 1, none⟩ = some (.slice A2 le.length c2) ∧ EdgesIn u u.heap.size A2 le ∧ g < u.heap.size
theorem BkAt.on {w1 v u : World} {n : Int} {A : Option Addr} {c : Nat} {es : List (Int × Int)} {g : Nat} {n2 : Int} {A2 : Option Addr} {c2 : Nat} {le : List (Int × Int)} (h : BkAt w1 v u n A c es g n2 A2 c2 le) : ∀ u', Below u.heap.size u u' → BkAt w1 v u' n A c es g n2 A2 c2 le := fun _ hb =>
  ⟨⟨h.1.1.on _ hb, h.1.2.trans (hb.mono h.1.2.size)⟩, (hb.cell (p := ⟨g, 0, none⟩) h.2.2.2.2).trans h.2.1, (hb.cell (p := ⟨g, 1, none⟩) h.2.2.2.2).trans h.2.2.1, h.2.2.2.1.below hb (Nat.le_refl _) |>.more hb.size, Nat.lt_of_lt_of_le h.2.2.2.2 hb.size⟩

set_option maxHeartbeats 8000000 in
theorem backOk_law (A : Option Addr) (cap l : Nat) (w : World) (hb : BytesIn w w.heap.size A l) (hc : l ≤ cap) :
    Calls Try.prog 5 #[.slice A l cap] w fun e w' => e = .returned (.bool true) ∧ Below w.heap.size w w' := by
  by_cases hbig : 1048576 < l
  · go_enter Try.func5, Try.ntmps5
    go_wp2
    go_returns
    exact ⟨rfl, Below.refl _ _⟩
  · have hl : l ≤ 1048576 := by omega
    clear hbig
    go_enter Try.func5, Try.ntmps5
    go_wp2_with fail
    refine (drawBackOk_any _ _ _ _ hb hl hc).mono ?_
    rintro e1 w1 ⟨n, A1, c, es, s, rfl, own, n1, n7, hle, m0, m1, hb1⟩
    have L1 := ArgNet.start (cap := c) (n := n) 25 own.edges
    have hcap := own.cap
    have HB := Lib.hid hb1
    have hle' : es.length ≤ 1048576 := by omega
    have s1 := hb1.size
    clear own hb hb1
    have HI : Hid (∀ (y : Int) (u : World), EdgesIn u u.heap.size A1 es → Calls Try.prog 26 #[.agg #[.int .i64 n, .slice A1 es.length c], .int .i64 y] u fun e w' => e = .returned (.bool (backB n es y)) ∧ Below u.heap.size u w') := fun y u h => backOk_any n y A1 c es u h hle'
    have HS : Hid (∀ u, EdgesIn u u.heap.size A1 es → Calls Try.prog 27 #[.agg #[.int .i64 n, .slice A1 es.length c], .int .i64 s] u fun e w' => e = .returned (.bool (backB n es s)) ∧ Below u.heap.size u w') := fun u h => specBackOk_any n s A1 c es u h hle'
    have HK : Hid (∀ u, EdgesIn u u.heap.size A1 es → Calls Try.prog 28 #[.agg #[.int .i64 n, .slice A1 es.length c], .int .i64 s] u fun e w' => e = .returned (.bool (stateOkB n es s)) ∧ Below u.heap.size u w') := fun u h => specStateOk_any n s A1 c es u h hle'
    cases hok : stateOkB n es s with
    | false =>
      have hv : backB n es s = false := by unfold backB; rw [hok]; rfl
      have HX := Lib.hid (HI.out s)
      rw [hv] at HX HS
      rw [hok] at HK
      have c0 := L1.c0
      have c1 := L1.c1
      clear HI
      go_wp2_with fail
      refine (HX.out _ L1.edges).mono ?_
      rintro e2 w2 ⟨rfl, hb2⟩
      have L2 := L1.step hb2 L1.lt
      clear hb2 L1 c0 c1
      have c0 := L2.c0
      have c1 := L2.c1
      go_wp2_with fail
      refine (HS.out _ L2.edges).mono ?_
      rintro e3 w3 ⟨rfl, hb3⟩
      have L3 := L2.step hb3 L2.lt
      clear hb3 L2 c0 c1
      have c0 := L3.c0
      have c1 := L3.c1
      go_wp2_with fail
      refine (HK.out _ L3.edges).mono ?_
      rintro e4 w4 ⟨rfl, hb4⟩
      have L4 := L3.step hb4 L3.lt
      clear hb4 L3 c0 c1
      have c0 := L4.c0
      have c1 := L4.c1
      clear c0 c1
      go_wp2_with fail
      refine (alive_any _).mono ?_
      rintro e5 w5 ⟨rfl, hb5⟩
      have L5 := L4.step hb5 L4.lt
      go_wp2_with fail
      go_returns
      exact ⟨rfl, HB.out.trans (L5.below.mono s1)⟩
    | true =>
      have hn := stateOkB_net hok
      have h9 := (netOkB_iff.1 hn).2.1
      obtain ⟨t, rfl, ht, ht5⟩ := state_nat hok
      have HX := Lib.hid (HI.out (t : Nat))
      have HT := Lib.hid (HI.out ((2 ^ es.length - 1 - t : Nat) : Int))
      have HZ := Lib.hid (HI.out 0)
      rw [backB_of hn ht] at HX HS
      rw [backB_turn hn ht] at HT
      rw [backB_zero hn] at HZ
      rw [hok] at HK
      obtain ⟨P, hP, p1, p2, hp3, hp4⟩ := pow_named h9
      rw [hP] at HT ht
      have HP3 := Lib.hid hp3
      have HP4 := Lib.hid hp4
      clear hp3 hp4 hP
      have wa : IntKind.i64.wrap ((P : Int) - 1) = ((P - 1 : Nat) : Int) := by rw [IntWalk.i64_in _ (by omega)]; omega
      have wb : IntKind.i64.wrap (((P - 1 : Nat) : Int) - (t : Int)) = ((P - 1 - t : Nat) : Int) := by rw [IntWalk.i64_in _ (by omega)]; omega
      generalize P - 1 - t = T at *
      generalize P - 1 = Q at *
      clear HI hok
      by_cases hz : es.length = 0
      · have f3 : atOkB n es (-1) = false := by simp [atOkB]
        have HL : Hid (∀ u, EdgesIn u u.heap.size A1 es → Calls Try.prog 20 #[.agg #[.int .i64 n, .slice A1 es.length c], .int .i64 (-1)] u (MadeNetB u 0 [] false)) := fun u h => by
          have := withoutEdge_any n (-1) A1 c es u h hle' hcap
          rw [wN, wE, if_neg (by rw [f3]; simp), if_neg (by rw [f3]; simp), f3] at this; exact this
        have wl : IntKind.i64.wrap ((es.length : Int) - 1) = -1 := by rw [hz]; decide
        generalize backV (endsL es) t = V at *
        have c0 := L1.c0
        have c1 := L1.c1
        clear hz f3 hn hle hle' hcap ht
        cases V with
        | true =>
          have hp3 := HP3.out
          have hp4 := HP4.out
          go_wp2_with fail
          refine (HX.out _ L1.edges).mono ?_
          rintro e2 w2 ⟨rfl, hb2⟩
          have L2 := L1.step hb2 L1.lt
          clear hb2 L1 c0 c1
          have c0 := L2.c0
          have c1 := L2.c1
          go_wp2_with fail
          refine (HS.out _ L2.edges).mono ?_
          rintro e3 w3 ⟨rfl, hb3⟩
          have L3 := L2.step hb3 L2.lt
          clear hb3 L2 c0 c1
          have c0 := L3.c0
          have c1 := L3.c1
          go_wp2_with fail
          refine (HK.out _ L3.edges).mono ?_
          rintro e4 w4 ⟨rfl, hb4⟩
          have L4 := L3.step hb4 L3.lt
          clear hb4 L3 c0 c1
          have c0 := L4.c0
          have c1 := L4.c1
          go_wp2_with fail
          refine (HL.out _ L4.edges).mono ?_
          rintro e5 w5 ⟨A4, k4, rfl, own5, hb5⟩
          have L5 := L4.step hb5 L4.lt
          have hbx := (Below.refl w5.heap.size w5).alloc (Nat.le_refl _) (.cells #[.int .i64 (0), .slice A4 (0) k4] 25)
          have D5 : BkAt w1 w1 (w5.alloc (.cells #[.int .i64 (0), .slice A4 (0) k4] 25)) n A1 c es w5.heap.size (0) A4 k4 ([]) :=
            ⟨⟨L5.step hbx L5.lt, ((L5.step hbx L5.lt).below)⟩, by rw [World.cell?_alloc_at _ _ _ _ rfl]; rfl, by rw [World.cell?_alloc_at _ _ _ _ rfl]; rfl, (own5.edges.alloc (Nat.le_refl _) _).more (by simp), by simp⟩
          clear hb5 L4 c0 c1 own5 hbx
          have c0 := L5.c0
          have c1 := L5.c1
          have lw := L5.lt
          go_wp2_with fail
          clear c0 c1 lw L5
          have HTT : Hid (∀ u, BkAt w1 w1 u n A1 c es w5.heap.size (0) A4 k4 ([]) → _) := fun u h => HT.out u h.1.1.edges
          have HZZ : Hid (∀ u, BkAt w1 w1 u n A1 c es w5.heap.size (0) A4 k4 ([]) → _) := fun u h => HZ.out u h.1.1.edges
          refine wp_region_class (fun u => BkAt w1 w1 u n A1 c es w5.heap.size (0) A4 k4 ([])) (by kernel_rfl) (by kernel_rfl) (D5.on _ ((Below.refl _ _).drew)) ?_
          intro X hX f hf hex
          have c0 : ∀ x, (f x).cell? ⟨w1.heap.size, 0, none⟩ = some (.int .i64 n) := fun x => (hf x).1.1.c0
          have c1 : ∀ x, (f x).cell? ⟨w1.heap.size, 1, none⟩ = some (.slice A1 es.length c) := fun x => (hf x).1.1.c1
          have c2 : ∀ x, (f x).cell? ⟨w5.heap.size, 0, none⟩ = some (.int .i64 (0)) := fun x => (hf x).2.1
          have c3 : ∀ x, (f x).cell? ⟨w5.heap.size, 1, none⟩ = some (.slice A4 (0) k4) := fun x => (hf x).2.2.1
          repeat (go_big_quiet_step (first | (go_at_call 26; with_reducible exact class_of hex (HZZ.out _ (hf _)) (hf _).on) | (go_at_call 26; with_reducible exact class_of hex (HTT.out _ (hf _)) (hf _).on)))
          refine wpQuiet_nil ?_
          rintro _ ⟨x, rfl⟩
          have F := (hf x).1.2
          go_wp2_with fail
          go_returns
          exact ⟨by first | rfl | simp, HB.out.trans (F.mono s1)⟩
        | false =>
          have hp3 := HP3.out
          have hp4 := HP4.out
          go_wp2_with fail
          refine (HX.out _ L1.edges).mono ?_
          rintro e2 w2 ⟨rfl, hb2⟩
          have L2 := L1.step hb2 L1.lt
          clear hb2 L1 c0 c1
          have c0 := L2.c0
          have c1 := L2.c1
          go_wp2_with fail
          refine (HS.out _ L2.edges).mono ?_
          rintro e3 w3 ⟨rfl, hb3⟩
          have L3 := L2.step hb3 L2.lt
          clear hb3 L2 c0 c1
          have c0 := L3.c0
          have c1 := L3.c1
          go_wp2_with fail
          refine (HK.out _ L3.edges).mono ?_
          rintro e4 w4 ⟨rfl, hb4⟩
          have L4 := L3.step hb4 L3.lt
          clear hb4 L3 c0 c1
          have c0 := L4.c0
          have c1 := L4.c1
          go_wp2_with fail
          refine (HL.out _ L4.edges).mono ?_
          rintro e5 w5 ⟨A4, k4, rfl, own5, hb5⟩
          have L5 := L4.step hb5 L4.lt
          have hbx := (Below.refl w5.heap.size w5).alloc (Nat.le_refl _) (.cells #[.int .i64 (0), .slice A4 (0) k4] 25)
          have D5 : BkAt w1 w1 (w5.alloc (.cells #[.int .i64 (0), .slice A4 (0) k4] 25)) n A1 c es w5.heap.size (0) A4 k4 ([]) :=
            ⟨⟨L5.step hbx L5.lt, ((L5.step hbx L5.lt).below)⟩, by rw [World.cell?_alloc_at _ _ _ _ rfl]; rfl, by rw [World.cell?_alloc_at _ _ _ _ rfl]; rfl, (own5.edges.alloc (Nat.le_refl _) _).more (by simp), by simp⟩
          clear hb5 L4 c0 c1 own5 hbx
          have c0 := L5.c0
          have c1 := L5.c1
          have lw := L5.lt
          go_wp2_with fail
          clear c0 c1 lw L5
          have HTT : Hid (∀ u, BkAt w1 w1 u n A1 c es w5.heap.size (0) A4 k4 ([]) → _) := fun u h => HT.out u h.1.1.edges
          have HZZ : Hid (∀ u, BkAt w1 w1 u n A1 c es w5.heap.size (0) A4 k4 ([]) → _) := fun u h => HZ.out u h.1.1.edges
          refine wp_region_class (fun u => BkAt w1 w1 u n A1 c es w5.heap.size (0) A4 k4 ([])) (by kernel_rfl) (by kernel_rfl) (D5.on _ ((Below.refl _ _).drew)) ?_
          intro X hX f hf hex
          have c0 : ∀ x, (f x).cell? ⟨w1.heap.size, 0, none⟩ = some (.int .i64 n) := fun x => (hf x).1.1.c0
          have c1 : ∀ x, (f x).cell? ⟨w1.heap.size, 1, none⟩ = some (.slice A1 es.length c) := fun x => (hf x).1.1.c1
          have c2 : ∀ x, (f x).cell? ⟨w5.heap.size, 0, none⟩ = some (.int .i64 (0)) := fun x => (hf x).2.1
          have c3 : ∀ x, (f x).cell? ⟨w5.heap.size, 1, none⟩ = some (.slice A4 (0) k4) := fun x => (hf x).2.2.1
          repeat (go_big_quiet_step (first | (go_at_call 26; with_reducible exact class_of hex (HZZ.out _ (hf _)) (hf _).on) | (go_at_call 26; with_reducible exact class_of hex (HTT.out _ (hf _)) (hf _).on)))
          refine wpQuiet_nil ?_
          rintro _ ⟨x, rfl⟩
          have F := (hf x).1.2
          go_wp2_with fail
          go_returns
          exact ⟨by first | rfl | simp, HB.out.trans (F.mono s1)⟩
      · obtain ⟨k, hk⟩ : ∃ k, es.length = k + 1 := ⟨es.length - 1, by omega⟩
        obtain ⟨le, f1, f2, f3, hnl, hll, hel⟩ := last_gone hn hk
        have HL : Hid (∀ u, EdgesIn u u.heap.size A1 es → Calls Try.prog 20 #[.agg #[.int .i64 n, .slice A1 es.length c], .int .i64 k] u (MadeNetB u n le true)) := fun u h => by
          have := withoutEdge_any n k A1 c es u h hle' hcap
          rw [f1, f2, f3] at this; exact this
        have wl : IntKind.i64.wrap ((es.length : Int) - 1) = (k : Int) := by rw [hk, IntWalk.i64_in _ (by omega)]; omega
        have HJ : Hid (backV (endsL es) t = false → ∀ (A : Option Addr) (c : Nat) (u : World), EdgesIn u u.heap.size A le → Calls Try.prog 26 #[.agg #[.int .i64 n, .slice A le.length c], .int .i64 ((t % 2 ^ k : Nat) : Int)] u fun e w' => e = .returned (.bool false) ∧ Below u.heap.size u w') := fun hV A c u h => by
          have := backOk_any n ((t % 2 ^ k : Nat) : Int) A c le u h (by omega)
          rw [backB_less hnl hll hel hV] at this; exact this
        have hk8 : k ≤ 8 := by omega
        obtain ⟨Pk, hPk, q1, q2, hq3, hq4⟩ := pow_named (show k ≤ 9 by omega)
        rw [hPk] at HJ
        have HQ3 := Lib.hid hq3
        have HQ4 := Lib.hid hq4
        clear hq3 hq4 hPk
        have htm : ((t : Int)).tmod (Pk : Int) = ((t % Pk : Nat) : Int) := by rw [Int.tmod_eq_emod_of_nonneg (Int.natCast_nonneg _)]; rfl
        have hmx : max (k : Int) 0 = (k : Int) := by omega
        have hP0 : ¬ (Pk : Int) = 0 := by omega
        have hP1 : ((Pk : Int) == 0) = false := by rw [beq_eq_false_iff_ne]; exact hP0
        generalize t % Pk = r at *
        generalize backV (endsL es) t = V at *
        have c0 := L1.c0
        have c1 := L1.c1
        clear hz f1 f2 f3 hn hle hle' hcap ht hk hnl hll hel
        have hq3 := HQ3.out
        have hq4 := HQ4.out
        cases V with
        | true =>
          have hp3 := HP3.out
          have hp4 := HP4.out
          go_wp2_with fail
          refine (HX.out _ L1.edges).mono ?_
          rintro e2 w2 ⟨rfl, hb2⟩
          have L2 := L1.step hb2 L1.lt
          clear hb2 L1 c0 c1
          have c0 := L2.c0
          have c1 := L2.c1
          go_wp2_with fail
          refine (HS.out _ L2.edges).mono ?_
          rintro e3 w3 ⟨rfl, hb3⟩
          have L3 := L2.step hb3 L2.lt
          clear hb3 L2 c0 c1
          have c0 := L3.c0
          have c1 := L3.c1
          go_wp2_with fail
          refine (HK.out _ L3.edges).mono ?_
          rintro e4 w4 ⟨rfl, hb4⟩
          have L4 := L3.step hb4 L3.lt
          clear hb4 L3 c0 c1
          have c0 := L4.c0
          have c1 := L4.c1
          go_wp2_with fail
          refine (HL.out _ L4.edges).mono ?_
          rintro e5 w5 ⟨A4, k4, rfl, own5, hb5⟩
          have L5 := L4.step hb5 L4.lt
          have hbx := (Below.refl w5.heap.size w5).alloc (Nat.le_refl _) (.cells #[.int .i64 (n), .slice A4 (le.length) k4] 25)
          have D5 : BkAt w1 w1 (w5.alloc (.cells #[.int .i64 (n), .slice A4 (le.length) k4] 25)) n A1 c es w5.heap.size (n) A4 k4 (le) :=
            ⟨⟨L5.step hbx L5.lt, ((L5.step hbx L5.lt).below)⟩, by rw [World.cell?_alloc_at _ _ _ _ rfl]; rfl, by rw [World.cell?_alloc_at _ _ _ _ rfl]; rfl, (own5.edges.alloc (Nat.le_refl _) _).more (by simp), by simp⟩
          clear hb5 L4 c0 c1 own5 hbx
          have c0 := L5.c0
          have c1 := L5.c1
          have lw := L5.lt
          go_wp2_with fail
          clear c0 c1 lw L5
          have HTT : Hid (∀ u, BkAt w1 w1 u n A1 c es w5.heap.size (n) A4 k4 (le) → _) := fun u h => HT.out u h.1.1.edges
          have HZZ : Hid (∀ u, BkAt w1 w1 u n A1 c es w5.heap.size (n) A4 k4 (le) → _) := fun u h => HZ.out u h.1.1.edges
          refine wp_region_class (fun u => BkAt w1 w1 u n A1 c es w5.heap.size (n) A4 k4 (le)) (by kernel_rfl) (by kernel_rfl) (D5.on _ ((Below.refl _ _).drew)) ?_
          intro X hX f hf hex
          have c0 : ∀ x, (f x).cell? ⟨w1.heap.size, 0, none⟩ = some (.int .i64 n) := fun x => (hf x).1.1.c0
          have c1 : ∀ x, (f x).cell? ⟨w1.heap.size, 1, none⟩ = some (.slice A1 es.length c) := fun x => (hf x).1.1.c1
          have c2 : ∀ x, (f x).cell? ⟨w5.heap.size, 0, none⟩ = some (.int .i64 (n)) := fun x => (hf x).2.1
          have c3 : ∀ x, (f x).cell? ⟨w5.heap.size, 1, none⟩ = some (.slice A4 (le.length) k4) := fun x => (hf x).2.2.1
          repeat (go_big_quiet_step (first | (go_at_call 26; with_reducible exact class_of hex (HZZ.out _ (hf _)) (hf _).on) | (go_at_call 26; with_reducible exact class_of hex (HTT.out _ (hf _)) (hf _).on)))
          refine wpQuiet_nil ?_
          rintro _ ⟨x, rfl⟩
          have F := (hf x).1.2
          go_wp2_with fail
          go_returns
          exact ⟨by first | rfl | simp, HB.out.trans (F.mono s1)⟩
        | false =>
          have HJ2 : Hid (∀ (A : Option Addr) (c : Nat) (u : World), EdgesIn u u.heap.size A le → Calls Try.prog 26 #[.agg #[.int .i64 n, .slice A le.length c], .int .i64 (r : Nat)] u fun e w' => e = .returned (.bool false) ∧ Below u.heap.size u w') := HJ.out rfl
          have hp3 := HP3.out
          have hp4 := HP4.out
          go_wp2_with fail
          refine (HX.out _ L1.edges).mono ?_
          rintro e2 w2 ⟨rfl, hb2⟩
          have L2 := L1.step hb2 L1.lt
          clear hb2 L1 c0 c1
          have c0 := L2.c0
          have c1 := L2.c1
          go_wp2_with fail
          refine (HS.out _ L2.edges).mono ?_
          rintro e3 w3 ⟨rfl, hb3⟩
          have L3 := L2.step hb3 L2.lt
          clear hb3 L2 c0 c1
          have c0 := L3.c0
          have c1 := L3.c1
          go_wp2_with fail
          refine (HK.out _ L3.edges).mono ?_
          rintro e4 w4 ⟨rfl, hb4⟩
          have L4 := L3.step hb4 L3.lt
          clear hb4 L3 c0 c1
          have c0 := L4.c0
          have c1 := L4.c1
          go_wp2_with fail
          refine (HL.out _ L4.edges).mono ?_
          rintro e5 w5 ⟨A4, k4, rfl, own5, hb5⟩
          have L5 := L4.step hb5 L4.lt
          have hbx := (Below.refl w5.heap.size w5).alloc (Nat.le_refl _) (.cells #[.int .i64 (n), .slice A4 (le.length) k4] 25)
          have D5 : BkAt w1 w1 (w5.alloc (.cells #[.int .i64 (n), .slice A4 (le.length) k4] 25)) n A1 c es w5.heap.size (n) A4 k4 (le) :=
            ⟨⟨L5.step hbx L5.lt, ((L5.step hbx L5.lt).below)⟩, by rw [World.cell?_alloc_at _ _ _ _ rfl]; rfl, by rw [World.cell?_alloc_at _ _ _ _ rfl]; rfl, (own5.edges.alloc (Nat.le_refl _) _).more (by simp), by simp⟩
          clear hb5 L4 c0 c1 own5 hbx
          have c0 := L5.c0
          have c1 := L5.c1
          have lw := L5.lt
          go_wp2_with fail
          clear c0 c1 lw L5
          have HTT : Hid (∀ u, BkAt w1 w1 u n A1 c es w5.heap.size (n) A4 k4 (le) → _) := fun u h => HT.out u h.1.1.edges
          have HZZ : Hid (∀ u, BkAt w1 w1 u n A1 c es w5.heap.size (n) A4 k4 (le) → _) := fun u h => HZ.out u h.1.1.edges
          have HJJ : Hid (∀ u, BkAt w1 w1 u n A1 c es w5.heap.size (n) A4 k4 (le) → _) := fun u h => HJ2.out A4 k4 u h.2.2.2.1
          refine wp_region_class (fun u => BkAt w1 w1 u n A1 c es w5.heap.size (n) A4 k4 (le)) (by kernel_rfl) (by kernel_rfl) (D5.on _ ((Below.refl _ _).drew)) ?_
          intro X hX f hf hex
          have c0 : ∀ x, (f x).cell? ⟨w1.heap.size, 0, none⟩ = some (.int .i64 n) := fun x => (hf x).1.1.c0
          have c1 : ∀ x, (f x).cell? ⟨w1.heap.size, 1, none⟩ = some (.slice A1 es.length c) := fun x => (hf x).1.1.c1
          have c2 : ∀ x, (f x).cell? ⟨w5.heap.size, 0, none⟩ = some (.int .i64 (n)) := fun x => (hf x).2.1
          have c3 : ∀ x, (f x).cell? ⟨w5.heap.size, 1, none⟩ = some (.slice A4 (le.length) k4) := fun x => (hf x).2.2.1
          iterate 24 (go_big_quiet_step (first | (go_at_call 26; with_reducible exact class_of hex (HZZ.out _ (hf _)) (hf _).on) | (go_at_call 26; with_reducible exact class_of hex (HTT.out _ (hf _)) (hf _).on) | (go_at_call 26; with_reducible exact class_of hex (HJJ.out _ (hf _)) (hf _).on)))
          clear hq3 hq4 hp3 hp4 hmx
          repeat (go_big_quiet_step (first | (go_at_call 26; with_reducible exact class_of hex (HZZ.out _ (hf _)) (hf _).on) | (go_at_call 26; with_reducible exact class_of hex (HTT.out _ (hf _)) (hf _).on) | (go_at_call 26; with_reducible exact class_of hex (HJJ.out _ (hf _)) (hf _).on)))
          refine wpQuiet_nil ?_
          rintro _ ⟨x, rfl⟩
          have F := (hf x).1.2
          go_wp2_with fail
          go_returns
          exact ⟨by first | rfl | simp, HB.out.trans (F.mono s1)⟩

namespace fnBackOk
open Go.ChangeShapes Go.WideShapes Go.ChangeAt Go.RowKit Go.Deep Go.Joins
set_option linter.unusedVariables false
set_option maxRecDepth 100000 in
theorem lifted (os : Os) (started : os.Started) (H : Type) (enc : TypeId × Value → H) :
    ReturnsInHanded {} Try.checked os 5 .any (Rows.fnBackOkSpec.pre6 enc Try.prog Try.f5 Rows.fnBackOkRow.domain false) (Rows.fnBackOkSpec.post enc Try.prog Try.f5 false true false false) := by
  refine returnsInHanded_of_change (C := Try.checked) own started (by kernel_rfl) Try.func5
    (ChangeSpec.witness6 (enc := enc) (C := Try.checked) false ⟨#[], #[.slice none 0 0], []⟩ 8 (by kernel_rfl) (by kernel_rfl) (by kernel_rfl) (by kernel_rfl)) ?_
  intro W base args ds gs before hval0 hW hcnd _
  have hval : ∀ (j : Nat) t v, Try.f5.params[j]? = some t → args[j]? = some v → Value.okWide Try.prog W .any base t v := hval0
  have hW' := hW
  obtain ⟨p, q, hA0, hV, rfl, hfz, hnd⟩ := hW
  have hA : DataW.TrodAll enc Try.prog W 0 (fun _ => true) true Try.f5.params.toList args.toList ds p := hA0
  rw [Try.params5] at hA hval
  obtain ⟨v0, vs0, d0, ds0, p0, q0, hargs, rfl, rfl, h0, r0⟩ := trodAll_cons hA
  obtain ⟨rfl, rfl, rfl⟩ := trodAll_nil r0
  obtain rfl : args = #[v0] := by cases args; simp_all
  obtain ⟨rfl, rfl⟩ := trodVars_none hV
  have k0 := h0
  have lt0 : ∀ x ∈ p0, x.block < W.heap.size := by obtain ⟨m, hm⟩ := k0; exact DataW.trod_lt m _ _ _ hm
  obtain ⟨A0, c0, bs0, rfl, hb0, hl0⟩ := open_bytes (hval 0 22 v0 rfl rfl) h0
  clear hA0 hval0
  refine (backOk_law A0 c0 bs0 W hb0 hl0).mono fun e W' ⟨he, bel⟩ => ?_
  subst he
  exact ⟨_, rfl, _, _, _, [], _, [], hW', trodAll_mk1 (shut_bool Try.underlying4 _), (trodAll_cons_mk (Below.trod laidOut (by kernel_rfl) (of_decide_eq_true (by kernel_rfl)) k0 bel lt0) trodAll_mk0), rfl, bel.frame _, fun h => by cases h⟩

theorem holds : Rows.FnBackOkSaid :=
  OpenClaim.holds_of_wide 5 Try.f5 rfl rfl rfl rfl rfl rfl rfl ⟨rfl, rfl, rfl, rfl, rfl⟩ rfl rfl rfl rfl rfl (by kernel_rfl) Try.func5 (by kernel_rfl)
    (of_decide_eq_true (by kernel_rfl)) (by unfold Func.isWrapper; first | (rw [if_pos (by decide +kernel)]; kernel_rfl) | (rw [if_neg (by decide +kernel)]; exact ⟨rfl, rfl⟩))
    (fun os started H enc _ => lifted os started H enc)
end fnBackOk
end Go.Proofs.Ytgacgaidlbkkmaa
