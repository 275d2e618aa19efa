/- The law FnJoinedOk holds of every code: joined goes the other way, holds of a node and itself, goes on over a third node, and holds of both ends of each edge that is there; of what is no state, or no node, it does not hold. -/
import Derived.Test.YtikmkdonbfngeabBytes
import Derived.Test.YtikmkdonbfngeabDrawsD
import Derived.Test.YtikmkdonbfngeabMore2
namespace Go.Proofs.Ytikmkdonbfngeab
open Go.RowKit
set_option maxRecDepth 100000

set_option maxRecDepth 100000 in
set_option maxHeartbeats 4000000 in
theorem joinedOk_law (A : Option Addr) (cap l : Nat) (w : World) (hb : BytesIn w w.heap.size A l) (hc : l ≤ cap) :
    Calls Try.prog 7 #[.slice A l cap] w fun e w' => e = .returned (.bool true) ∧ Below w.heap.size w w' := by
  by_cases hbig : 1048576 < l
  · go_enter Try.func7, Try.ntmps7
    go_wp2
    go_returns
    exact ⟨rfl, Below.refl _ _⟩
  · have hl : l ≤ 1048576 := by omega
    clear hbig
    go_enter Try.func7, Try.ntmps7
    go_wp2_with fail
    refine (drawJoinedOk_any _ _ _ _ hb hl hc).mono ?_
    rintro e1 w1 ⟨n, A1, c, es, s, a, b, rfl, own, n1, n7, hle, sl, sh, a1, a2, b1, b2, hb1⟩
    have L1 := ArgNet.start (cap := c) (n := n) 25 own.edges
    have hcap := own.cap
    have HB := Lib.hid hb1
    have hle' : es.length ≤ 1048576 := by omega
    have s1 := hb1.size
    clear own hb hb1
    by_cases hst : stateOkB n es s = true
    · have HST := Lib.hid hst
      have hn6 := (netOkB_iff.1 (stateOkB_net hst)).1
      by_cases han : a ≤ n
      · by_cases hbn : b ≤ n
        · have hA : decide (n < a) = false := by simp; omega
          have hB : decide (n < b) = false := by simp; omega
          have HSW := Lib.hid (joined_swap n s es a b)
          have HSE := Lib.hid (joined_self hst a1 han)
          obtain ⟨ok, hok⟩ : ∃ ok, joinedB n es s a b = ok := ⟨_, rfl⟩
          have HOK := Lib.hid hok
          rw [hok] at HSW
          have HON : Hid (ok = true → ∀ z, joinedB n es s b z = joinedB n es s a z) := fun h z => joined_on (hok.trans h) z
          have HED := Lib.hid (fun (k : Nat) (hk : k < es.length) hb => joined_edge hst hk hb)
          clear hst hok
          go_wp2_with fail
          refine (joinedOk_is _ _ _ _ _ _ _ _ L1.edges hle' ok HOK.out).mono ?_
          rintro e2 w2 ⟨rfl, hb2⟩
          have L2 := L1.step hb2 L1.lt
          clear hb2
          obtain ⟨_, _, c0, c1, s2⟩ := id L2
          go_wp2_with fail
          refine (specJoinedOk_is _ _ _ _ _ _ _ _ L2.edges hle' ok HOK.out).mono ?_
          rintro e3 w3 ⟨rfl, hb3⟩
          have L3 := L2.step hb3 L2.lt
          clear hb3
          obtain ⟨_, _, c0, c1, s3⟩ := id L3
          go_wp2_with fail
          refine (specStateOk_is _ _ _ _ _ _ L3.edges hle' true HST.out).mono ?_
          rintro e4 w4 ⟨rfl, hb4⟩
          have L4 := L3.step hb4 L3.lt
          clear hb4
          obtain ⟨_, _, c0, c1, s4⟩ := id L4
          clear L1 L2 L3
          obtain ⟨m, rfl, _, hm⟩ := state_nat HST.out
          cases ok with
          | true =>
            have hon := HON.out rfl
            clear HON
            have HON := Lib.hid hon
            clear hon
            go_wp2_with fail
            go_loopw [8] (fun t wr => ∃ k : Nat, 1 ≤ k ∧ (k : Int) ≤ n + 1 ∧ t = .int .i64 (k : Nat) ∧ ArgNet w1 wr n A1 c es) (fun t _ => (n + 1).toNat - (intOf t).toNat)
            case atStart => exact ⟨1, by omega, by omega, rfl, L4⟩
            case round =>
              clear L4
              obtain ⟨k, hk1, hk, rfl, L⟩ := hrel
              obtain ⟨_, _, c0, c1, s4⟩ := id L
              by_cases hlt : (k : Int) ≤ n
              · obtain ⟨v, hv⟩ : ∃ v, joinedB n es m a k = v := ⟨_, rfl⟩
                have hv2 := (HON.out k).trans hv
                have hC1 : ∀ u, ArgNet w1 u n A1 c es → Calls Try.prog 26 #[.agg #[.int .i64 n, .slice A1 es.length c], .int .i64 m, .int .i64 b, .int .i64 k] u fun e w' => e = .returned (.bool v) ∧ Below u.heap.size u w' := fun u h => joinedOk_is _ _ _ _ _ _ _ _ h.edges hle' _ hv2
                have hC2 : ∀ u, ArgNet w1 u n A1 c es → Calls Try.prog 26 #[.agg #[.int .i64 n, .slice A1 es.length c], .int .i64 m, .int .i64 a, .int .i64 k] u fun e w' => e = .returned (.bool v) ∧ Below u.heap.size u w' := fun u h => joinedOk_is _ _ _ _ _ _ _ _ h.edges hle' _ hv
                clear hv hv2
                go_wp2_with fail
                refine wp_region_class (fun u => ArgNet w1 u n A1 c es) (by kernel_rfl) (by kernel_rfl) L.drew ?_
                intro X hX f hf hex
                have k0 : ∀ x, (f x).cell? ⟨w1.heap.size, 0, none⟩ = some (.int .i64 n) := fun x => (hf x).c0
                have k1 : ∀ x, (f x).cell? ⟨w1.heap.size, 1, none⟩ = some (.slice A1 es.length c) := fun x => (hf x).c1
                repeat (go_big_quiet_step (first
                  | (go_at_call 26; with_reducible exact class_of hex (hC1 _ (hf _)) (hf _).on)
                  | (go_at_call 26; with_reducible exact class_of hex (hC2 _ (hf _)) (hf _).on)))
                refine wpQuiet_nil ?_
                rintro _ ⟨x, rfl⟩
                have L4 := hf x
                go_wp2_with fail
                go_roundw
                case rel => exact ⟨k + 1, by omega, by omega, by go_num, L4⟩
                case measure => simp [intOf]; omega
              · go_wp2_with fail
                have LL := L
                clear s4 hlt hk hk1
                clear c0 c1 L
                go_loopw [9] (fun t wr => ∃ k : Nat, k ≤ es.length ∧ t = .int .i64 (k : Nat) ∧ ArgNet w1 wr n A1 c es) (fun t _ => es.length - (intOf t).toNat)
                case atStart => exact ⟨0, by omega, rfl, LL⟩
                case round =>
                  clear LL
                  obtain ⟨k, hk, rfl, L⟩ := hrel
                  obtain ⟨_, _, c0, c1, s5⟩ := id L
                  by_cases hlt : k < es.length
                  · have hz := bit_val m k
                    cases hbit : bits m k with
                    | false =>
                      rw [hbit] at hz
                      have hz0 : ((m : Int) / 2 ^ k).tmod 2 = 0 := by simpa using hz
                      clear hz hbit
                      go_wp2_with fail
                      refine wp_region_class (fun u => ArgNet w1 u n A1 c es) (by kernel_rfl) (by kernel_rfl) L.drew ?_
                      intro X hX f hf hex
                      have k0 : ∀ x, (f x).cell? ⟨w1.heap.size, 0, none⟩ = some (.int .i64 n) := fun x => (hf x).c0
                      have k1 : ∀ x, (f x).cell? ⟨w1.heap.size, 1, none⟩ = some (.slice A1 es.length c) := fun x => (hf x).c1
                      repeat (go_big_quiet_step (fail))
                      refine wpQuiet_nil ?_
                      rintro _ ⟨x, rfl⟩
                      have L4 := hf x
                      go_wp2_with fail
                      go_roundw
                      case rel => exact ⟨k + 1, by omega, by go_num, L4⟩
                      case measure => simp [intOf]; omega
                    | true =>
                      rw [hbit] at hz
                      have hz1 : ((m : Int) / 2 ^ k).tmod 2 = 1 := by simpa using hz
                      have hje := HED.out k hlt hbit
                      obtain ⟨bl, off, rfl, hbb, g1, g2⟩ := L.at_ k _ (List.getElem?_eq_getElem hlt)
                      have hat : ∀ u, ArgNet w1 u n (some ⟨bl, off, none⟩) c es → u.cell? ⟨bl, off + k * 2, none⟩ = some (.int .i64 es[k].1) ∧ u.cell? ⟨bl, off + k * 2 + 1, none⟩ = some (.int .i64 es[k].2) := fun u h => by
                        obtain ⟨bl', off', e, _, h1, h2⟩ := h.at_ k _ (List.getElem?_eq_getElem hlt)
                        injection e with e; injection e with e1 e2
                        subst e1 e2; exact ⟨h1, h2⟩
                      clear hz hbit g1 g2
                      generalize es[k] = ed at *
                      have hC : ∀ u, ArgNet w1 u n (some ⟨bl, off, none⟩) c es → Calls Try.prog 26 #[.agg #[.int .i64 n, .slice (some ⟨bl, off, none⟩) es.length c], .int .i64 m, .int .i64 ed.1, .int .i64 ed.2] u fun e w' => e = .returned (.bool true) ∧ Below u.heap.size u w' := fun u h => joinedOk_is _ _ _ _ _ _ _ _ h.edges hle' _ hje
                      go_wp2_with fail
                      refine wp_region_class (fun u => ArgNet w1 u n (some ⟨bl, off, none⟩) c es) (by kernel_rfl) (by kernel_rfl) L.drew ?_
                      intro X hX f hf hex
                      have k0 : ∀ x, (f x).cell? ⟨w1.heap.size, 0, none⟩ = some (.int .i64 n) := fun x => (hf x).c0
                      have k1 : ∀ x, (f x).cell? ⟨w1.heap.size, 1, none⟩ = some (.slice (some ⟨bl, off, none⟩) es.length c) := fun x => (hf x).c1
                      have k2 : ∀ x, (f x).cell? ⟨bl, off + k * 2, none⟩ = some (.int .i64 ed.1) := fun x => (hat _ (hf x)).1
                      have k3 : ∀ x, (f x).cell? ⟨bl, off + k * 2 + 1, none⟩ = some (.int .i64 ed.2) := fun x => (hat _ (hf x)).2
                      repeat (go_big_quiet_step (first
                        | (go_at_call 26; with_reducible exact class_of hex (hC _ (hf _)) (hf _).on)))
                      refine wpQuiet_nil ?_
                      rintro _ ⟨x, rfl⟩
                      have L4 := hf x
                      go_wp2_with fail
                      go_roundw
                      case rel => exact ⟨k + 1, by omega, by go_num, L4⟩
                      case measure => simp [intOf]; omega
                  · obtain rfl : k = es.length := by omega
                    clear HED hk hlt
                    go_wp2_with fail
                    refine (joinedOk_is _ _ _ _ _ _ _ _ L.edges hle' _ HSW.out).mono ?_
                    rintro e8 w8 ⟨rfl, hb8⟩
                    have L8 := L.step hb8 L.lt
                    obtain ⟨_, _, c0, c1, s8⟩ := id L8
                    go_wp2_with fail
                    refine (joinedOk_is _ _ _ _ _ _ _ _ L8.edges hle' _ HSE.out).mono ?_
                    rintro e9 w9 ⟨rfl, hb9⟩
                    have L9 := L8.step hb9 L8.lt
                    go_wp2_with fail
                    go_returns
                    exact ⟨rfl, HB.out.trans (L9.below.mono s1)⟩
          | false =>
            clear HON
            go_wp2_with fail
            go_loopw [8] (fun t wr => ∃ k : Nat, 1 ≤ k ∧ (k : Int) ≤ n + 1 ∧ t = .int .i64 (k : Nat) ∧ ArgNet w1 wr n A1 c es) (fun t _ => (n + 1).toNat - (intOf t).toNat)
            case atStart => exact ⟨1, by omega, by omega, rfl, L4⟩
            case round =>
              clear L4
              obtain ⟨k, hk1, hk, rfl, L⟩ := hrel
              obtain ⟨_, _, c0, c1, s4⟩ := id L
              by_cases hlt : (k : Int) ≤ n
              · go_wp2_with fail
                refine wp_region_class (fun u => ArgNet w1 u n A1 c es) (by kernel_rfl) (by kernel_rfl) L.drew ?_
                intro X hX f hf hex
                have k0 : ∀ x, (f x).cell? ⟨w1.heap.size, 0, none⟩ = some (.int .i64 n) := fun x => (hf x).c0
                have k1 : ∀ x, (f x).cell? ⟨w1.heap.size, 1, none⟩ = some (.slice A1 es.length c) := fun x => (hf x).c1
                repeat (go_big_quiet_step (fail))
                refine wpQuiet_nil ?_
                rintro _ ⟨x, rfl⟩
                have L4 := hf x
                go_wp2_with fail
                go_roundw
                case rel => exact ⟨k + 1, by omega, by omega, by go_num, L4⟩
                case measure => simp [intOf]; omega
              · go_wp2_with fail
                have LL := L
                clear s4 hlt hk hk1
                clear c0 c1 L
                go_loopw [9] (fun t wr => ∃ k : Nat, k ≤ es.length ∧ t = .int .i64 (k : Nat) ∧ ArgNet w1 wr n A1 c es) (fun t _ => es.length - (intOf t).toNat)
                case atStart => exact ⟨0, by omega, rfl, LL⟩
                case round =>
                  clear LL
                  obtain ⟨k, hk, rfl, L⟩ := hrel
                  obtain ⟨_, _, c0, c1, s5⟩ := id L
                  by_cases hlt : k < es.length
                  · have hz := bit_val m k
                    cases hbit : bits m k with
                    | false =>
                      rw [hbit] at hz
                      have hz0 : ((m : Int) / 2 ^ k).tmod 2 = 0 := by simpa using hz
                      clear hz hbit
                      go_wp2_with fail
                      refine wp_region_class (fun u => ArgNet w1 u n A1 c es) (by kernel_rfl) (by kernel_rfl) L.drew ?_
                      intro X hX f hf hex
                      have k0 : ∀ x, (f x).cell? ⟨w1.heap.size, 0, none⟩ = some (.int .i64 n) := fun x => (hf x).c0
                      have k1 : ∀ x, (f x).cell? ⟨w1.heap.size, 1, none⟩ = some (.slice A1 es.length c) := fun x => (hf x).c1
                      repeat (go_big_quiet_step (fail))
                      refine wpQuiet_nil ?_
                      rintro _ ⟨x, rfl⟩
                      have L4 := hf x
                      go_wp2_with fail
                      go_roundw
                      case rel => exact ⟨k + 1, by omega, by go_num, L4⟩
                      case measure => simp [intOf]; omega
                    | true =>
                      rw [hbit] at hz
                      have hz1 : ((m : Int) / 2 ^ k).tmod 2 = 1 := by simpa using hz
                      have hje := HED.out k hlt hbit
                      obtain ⟨bl, off, rfl, hbb, g1, g2⟩ := L.at_ k _ (List.getElem?_eq_getElem hlt)
                      have hat : ∀ u, ArgNet w1 u n (some ⟨bl, off, none⟩) c es → u.cell? ⟨bl, off + k * 2, none⟩ = some (.int .i64 es[k].1) ∧ u.cell? ⟨bl, off + k * 2 + 1, none⟩ = some (.int .i64 es[k].2) := fun u h => by
                        obtain ⟨bl', off', e, _, h1, h2⟩ := h.at_ k _ (List.getElem?_eq_getElem hlt)
                        injection e with e; injection e with e1 e2
                        subst e1 e2; exact ⟨h1, h2⟩
                      clear hz hbit g1 g2
                      generalize es[k] = ed at *
                      have hC : ∀ u, ArgNet w1 u n (some ⟨bl, off, none⟩) c es → Calls Try.prog 26 #[.agg #[.int .i64 n, .slice (some ⟨bl, off, none⟩) es.length c], .int .i64 m, .int .i64 ed.1, .int .i64 ed.2] u fun e w' => e = .returned (.bool true) ∧ Below u.heap.size u w' := fun u h => joinedOk_is _ _ _ _ _ _ _ _ h.edges hle' _ hje
                      go_wp2_with fail
                      refine wp_region_class (fun u => ArgNet w1 u n (some ⟨bl, off, none⟩) c es) (by kernel_rfl) (by kernel_rfl) L.drew ?_
                      intro X hX f hf hex
                      have k0 : ∀ x, (f x).cell? ⟨w1.heap.size, 0, none⟩ = some (.int .i64 n) := fun x => (hf x).c0
                      have k1 : ∀ x, (f x).cell? ⟨w1.heap.size, 1, none⟩ = some (.slice (some ⟨bl, off, none⟩) es.length c) := fun x => (hf x).c1
                      have k2 : ∀ x, (f x).cell? ⟨bl, off + k * 2, none⟩ = some (.int .i64 ed.1) := fun x => (hat _ (hf x)).1
                      have k3 : ∀ x, (f x).cell? ⟨bl, off + k * 2 + 1, none⟩ = some (.int .i64 ed.2) := fun x => (hat _ (hf x)).2
                      repeat (go_big_quiet_step (first
                        | (go_at_call 26; with_reducible exact class_of hex (hC _ (hf _)) (hf _).on)))
                      refine wpQuiet_nil ?_
                      rintro _ ⟨x, rfl⟩
                      have L4 := hf x
                      go_wp2_with fail
                      go_roundw
                      case rel => exact ⟨k + 1, by omega, by go_num, L4⟩
                      case measure => simp [intOf]; omega
                  · obtain rfl : k = es.length := by omega
                    clear HED hk hlt
                    go_wp2_with fail
                    refine (joinedOk_is _ _ _ _ _ _ _ _ L.edges hle' _ HSW.out).mono ?_
                    rintro e8 w8 ⟨rfl, hb8⟩
                    have L8 := L.step hb8 L.lt
                    obtain ⟨_, _, c0, c1, s8⟩ := id L8
                    go_wp2_with fail
                    refine (joinedOk_is _ _ _ _ _ _ _ _ L8.edges hle' _ HSE.out).mono ?_
                    rintro e9 w9 ⟨rfl, hb9⟩
                    have L9 := L8.step hb9 L8.lt
                    go_wp2_with fail
                    go_returns
                    exact ⟨rfl, HB.out.trans (L9.below.mono s1)⟩
        · have HOK : Hid (joinedB n es s a b = false) := by simp [Hid, joinedB]; omega
          clear hst
          go_wp2_with fail
          refine (joinedOk_is _ _ _ _ _ _ _ _ L1.edges hle' false HOK.out).mono ?_
          rintro e2 w2 ⟨rfl, hb2⟩
          have L2 := L1.step hb2 L1.lt
          clear hb2
          obtain ⟨_, _, c0, c1, s2⟩ := id L2
          go_wp2_with fail
          refine (specJoinedOk_is _ _ _ _ _ _ _ _ L2.edges hle' false HOK.out).mono ?_
          rintro e3 w3 ⟨rfl, hb3⟩
          have L3 := L2.step hb3 L2.lt
          clear hb3
          obtain ⟨_, _, c0, c1, s3⟩ := id L3
          go_wp2_with fail
          refine (specStateOk_is _ _ _ _ _ _ L3.edges hle' true HST.out).mono ?_
          rintro e4 w4 ⟨rfl, hb4⟩
          have L4 := L3.step hb4 L3.lt
          clear hb4
          obtain ⟨_, _, c0, c1, s4⟩ := id L4
          go_wp2_with fail
          refine (alive_any _).mono ?_
          rintro e5 w5 ⟨rfl, hb5⟩
          have L5 := L4.step hb5 L4.lt
          clear hb5
          obtain ⟨_, _, c0, c1, s5⟩ := id L5
          go_wp2_with fail
          go_returns
          exact ⟨rfl, HB.out.trans (L5.below.mono s1)⟩
      · have HOK : Hid (joinedB n es s a b = false) := by simp [Hid, joinedB]; omega
        clear hst
        go_wp2_with fail
        refine (joinedOk_is _ _ _ _ _ _ _ _ L1.edges hle' false HOK.out).mono ?_
        rintro e2 w2 ⟨rfl, hb2⟩
        have L2 := L1.step hb2 L1.lt
        clear hb2
        obtain ⟨_, _, c0, c1, s2⟩ := id L2
        go_wp2_with fail
        refine (specJoinedOk_is _ _ _ _ _ _ _ _ L2.edges hle' false HOK.out).mono ?_
        rintro e3 w3 ⟨rfl, hb3⟩
        have L3 := L2.step hb3 L2.lt
        clear hb3
        obtain ⟨_, _, c0, c1, s3⟩ := id L3
        go_wp2_with fail
        refine (specStateOk_is _ _ _ _ _ _ L3.edges hle' true HST.out).mono ?_
        rintro e4 w4 ⟨rfl, hb4⟩
        have L4 := L3.step hb4 L3.lt
        clear hb4
        obtain ⟨_, _, c0, c1, s4⟩ := id L4
        go_wp2_with fail
        refine (alive_any _).mono ?_
        rintro e5 w5 ⟨rfl, hb5⟩
        have L5 := L4.step hb5 L4.lt
        clear hb5
        obtain ⟨_, _, c0, c1, s5⟩ := id L5
        go_wp2_with fail
        go_returns
        exact ⟨rfl, HB.out.trans (L5.below.mono s1)⟩
    · have HST := Lib.hid (not_state hst)
      have HOK : Hid (joinedB n es s a b = false) := by simp [Hid, joinedB, HST.out]
      clear hst
      go_wp2_with fail
      refine (joinedOk_is _ _ _ _ _ _ _ _ L1.edges hle' false HOK.out).mono ?_
      rintro e2 w2 ⟨rfl, hb2⟩
      have L2 := L1.step hb2 L1.lt
      clear hb2
      obtain ⟨_, _, c0, c1, s2⟩ := id L2
      go_wp2_with fail
      refine (specJoinedOk_is _ _ _ _ _ _ _ _ L2.edges hle' false HOK.out).mono ?_
      rintro e3 w3 ⟨rfl, hb3⟩
      have L3 := L2.step hb3 L2.lt
      clear hb3
      obtain ⟨_, _, c0, c1, s3⟩ := id L3
      go_wp2_with fail
      refine (specStateOk_is _ _ _ _ _ _ L3.edges hle' false HST.out).mono ?_
      rintro e4 w4 ⟨rfl, hb4⟩
      have L4 := L3.step hb4 L3.lt
      clear hb4
      obtain ⟨_, _, c0, c1, s4⟩ := id L4
      go_wp2_with fail
      refine (alive_any _).mono ?_
      rintro e5 w5 ⟨rfl, hb5⟩
      have L5 := L4.step hb5 L4.lt
      clear hb5
      obtain ⟨_, _, c0, c1, s5⟩ := id L5
      go_wp2_with fail
      go_returns
      exact ⟨rfl, HB.out.trans (L5.below.mono s1)⟩

namespace fnJoinedOk
open Go.ChangeShapes Go.WideShapes Go.ChangeAt Go.RowKit Go.Deep Go.Joins
set_option linter.unusedVariables false
set_option maxRecDepth 100000 in
theorem lifted (os : Os) (started : os.Started) (H : Type) (enc : TypeId × Value → H) :
    ReturnsInHanded {} Try.checked os 7 .any (Rows.fnJoinedOkSpec.pre6 enc Try.prog Try.f7 Rows.fnJoinedOkRow.domain false) (Rows.fnJoinedOkSpec.post enc Try.prog Try.f7 false true false false) := by
  refine returnsInHanded_of_change (C := Try.checked) own started (by kernel_rfl) Try.func7
    (ChangeSpec.witness6 (enc := enc) (C := Try.checked) false ⟨#[], #[.slice none 0 0], []⟩ 8 (by kernel_rfl) (by kernel_rfl) (by kernel_rfl) (by kernel_rfl)) ?_
  intro W base args ds gs before hval0 hW hcnd _
  have hval : ∀ (j : Nat) t v, Try.f7.params[j]? = some t → args[j]? = some v → Value.okWide Try.prog W .any base t v := hval0
  have hW' := hW
  obtain ⟨p, q, hA0, hV, rfl, hfz, hnd⟩ := hW
  have hA : DataW.TrodAll enc Try.prog W 0 (fun _ => true) true Try.f7.params.toList args.toList ds p := hA0
  rw [Try.params7] at hA hval
  obtain ⟨v0, vs0, d0, ds0, p0, q0, hargs, rfl, rfl, h0, r0⟩ := trodAll_cons hA
  obtain ⟨rfl, rfl, rfl⟩ := trodAll_nil r0
  obtain rfl : args = #[v0] := by cases args; simp_all
  obtain ⟨rfl, rfl⟩ := trodVars_none hV
  have k0 := h0
  have lt0 : ∀ x ∈ p0, x.block < W.heap.size := by obtain ⟨m, hm⟩ := k0; exact DataW.trod_lt m _ _ _ hm
  obtain ⟨A0, c0, bs0, rfl, hb0, hl0⟩ := open_bytes (hval 0 22 v0 rfl rfl) h0
  clear hA0 hval0
  refine (joinedOk_law A0 c0 bs0 W hb0 hl0).mono fun e W' ⟨he, bel⟩ => ?_
  subst he
  exact ⟨_, rfl, _, _, _, [], _, [], hW', trodAll_mk1 (shut_bool Try.underlying4 _), (trodAll_cons_mk (Below.trod laidOut (by kernel_rfl) (of_decide_eq_true (by kernel_rfl)) k0 bel lt0) trodAll_mk0), rfl, bel.frame _, fun h => by cases h⟩

theorem holds : Rows.FnJoinedOkSaid :=
  OpenClaim.holds_of_wide 7 Try.f7 rfl rfl rfl rfl rfl rfl rfl ⟨rfl, rfl, rfl, rfl, rfl⟩ rfl rfl rfl rfl rfl (by kernel_rfl) Try.func7 (by kernel_rfl)
    (of_decide_eq_true (by kernel_rfl)) (by unfold Func.isWrapper; first | (rw [if_pos (by decide +kernel)]; kernel_rfl) | (rw [if_neg (by decide +kernel)]; exact ⟨rfl, rfl⟩))
    (fun os started H enc _ => lifted os started H enc)
end fnJoinedOk
end Go.Proofs.Ytikmkdonbfngeab
