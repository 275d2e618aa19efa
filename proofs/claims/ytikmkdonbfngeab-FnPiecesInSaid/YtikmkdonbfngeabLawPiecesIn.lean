/- The law FnPiecesIn holds of every code: there are at least the nodes less the edges that are there, and at least one piece; with any edge more there are as many, or one less; without edges each node is one. -/
import Derived.Test.YtikmkdonbfngeabBytes
import Derived.Test.YtikmkdonbfngeabDrawFns
import Derived.Test.YtikmkdonbfngeabSpec2
import Derived.Test.YtikmkdonbfngeabMore2
namespace Go.Proofs.Ytikmkdonbfngeab
open Go.RowKit
set_option maxRecDepth 100000

set_option maxRecDepth 100000 in
set_option maxHeartbeats 4000000 in
theorem piecesIn_law (A : Option Addr) (cap l : Nat) (w : World) (hb : BytesIn w w.heap.size A l) (hc : l ≤ cap) :
    Calls Try.prog 5 #[.slice A l cap] w fun e w' => e = .returned (.bool true) ∧ Below w.heap.size w w' := by
  by_cases hbig : 1048576 < l
  · go_enter Try.func5, Try.ntmps5
    go_wp2
    go_returns
    exact ⟨rfl, Below.refl _ _⟩
  · have hl : l ≤ 1048576 := by omega
    clear hbig
    go_enter Try.func5, Try.ntmps5
    go_wp2_with fail
    refine (drawPiecesIn_any _ _ _ _ hb hl hc).mono ?_
    rintro e1 w1 ⟨n, A1, c, es, s, rfl, own, n1, n7, hle, sl, sh, hb1⟩
    have L1 := ArgNet.start (cap := c) (n := n) 25 own.edges
    have hcap := own.cap
    have HB := Lib.hid hb1
    have hle' : es.length ≤ 1048576 := by omega
    have s1 := hb1.size
    clear own hb hb1
    by_cases hst : stateOkB n es s = true
    · have HST := Lib.hid hst
      have hp := piecesI_lt hst
      have hp1 := pieces_pos hst
      have hpt := pieces_there hst
      have hp0 := Lib.hid (pieces_zero (stateOkB_net hst))
      have HP := Lib.hid hp.1
      have hp6 := hp.2
      have ht9 := there_lt hst
      have h9 := stateOkB_lt hst
      have hn6 := (netOkB_iff.1 (stateOkB_net hst)).1
      have hl9 := (netOkB_iff.1 (stateOkB_net hst)).2.1
      have HM := Lib.hid (fun k hk => pieces_more (k := k) hst hk)
      clear hp hst
      obtain ⟨p, hpe⟩ : ∃ p : Int, ((piecesB n es s : Nat) : Int) = p := ⟨_, rfl⟩
      rw [hpe] at HP HM hpt
      obtain ⟨t, hte⟩ : ∃ t : Int, thereI n es s = t := ⟨_, rfl⟩
      rw [hte] at hpt ht9
      have hp1 : 1 ≤ p := by omega
      have hp6 : p ≤ 6 := by omega
      have HT := Lib.hid hte
      clear hpe hte
      go_wp2_with fail
      refine (piecesIn_is _ _ _ _ _ _ L1.edges hle' p HP.out).mono ?_
      rintro e2 w2 ⟨rfl, hb2⟩
      have L2 := L1.step hb2 L1.lt
      clear hb2
      obtain ⟨_, _, c0, c1, s2⟩ := id L2
      go_wp2_with fail
      refine (specPiecesIn_is _ _ _ _ _ _ L2.edges hle' p HP.out).mono ?_
      rintro e3 w3 ⟨rfl, hb3⟩
      have L3 := L2.step hb3 L2.lt
      clear hb3
      obtain ⟨_, _, c0, c1, s3⟩ := id L3
      clear L1 L2 c0 c1
      go_wp2_with fail
      go_loopw [6] (fun t wr => ∃ k : Nat, k ≤ es.length ∧ t = .int .i64 (k : Nat) ∧ ArgNet w1 wr n A1 c es) (fun t _ => es.length - (intOf t).toNat)
      case atStart => exact ⟨0, by omega, rfl, L3⟩
      case round =>
        clear L3
        obtain ⟨k, hk, rfl, L⟩ := hrel
        obtain ⟨_, _, c0, c1, s4⟩ := id L
        by_cases hlt : k < es.length
        · obtain ⟨X, hX⟩ : ∃ X : Int, ((s.toNat ||| 2 ^ k : Nat) : Int) = X := ⟨_, rfl⟩
          have hor := or_state HST.out hlt
          have hm := HM.out k hlt
          rw [hX] at hor hm
          clear hX
          have hpp : IntKind.i64.wrap (p - 1) = p - 1 := IntWalk.i64_in _ (by omega)
          have hne : ¬ p - 1 = p := by omega
          rcases hm with hm | hm
          all_goals
            have hC : ∀ u, ArgNet w1 u n A1 c es → Calls Try.prog 23 #[.agg #[.int .i64 n, .slice A1 es.length c], .int .i64 X] u fun e w' => e = .returned (.int .i64 _) ∧ Below u.heap.size u w' := fun u h => piecesIn_is _ _ _ _ _ _ h.edges hle' _ hm
            go_wp2_with fail
            refine wp_region_class (fun u => ArgNet w1 u n A1 c es) (by kernel_rfl) (by kernel_rfl) L.drew ?_
            intro X hX f hf hex
            have k0 : ∀ x, (f x).cell? ⟨w1.heap.size, 0, none⟩ = some (.int .i64 n) := fun x => (hf x).c0
            have k1 : ∀ x, (f x).cell? ⟨w1.heap.size, 1, none⟩ = some (.slice A1 es.length c) := fun x => (hf x).c1
            repeat (go_big_quiet_step (first
              | (go_at_call 23; with_reducible exact class_of hex (hC _ (hf _)) (hf _).on)))
            refine wpQuiet_nil ?_
            rintro _ ⟨x, rfl⟩
            have L4 := hf x
            go_wp2_with fail
            go_roundw
            case rel => exact ⟨k + 1, by omega, by go_num, L4⟩
            case measure => simp [intOf]; omega
        · obtain rfl : k = es.length := by omega
          have hwt : IntKind.i64.wrap (n - t) = n - t := IntWalk.i64_in _ (by omega)
          have hC : ∀ u, ArgNet w1 u n A1 c es → Calls Try.prog 23 #[.agg #[.int .i64 n, .slice A1 es.length c], .int .i64 0] u fun e w' => e = .returned (.int .i64 n) ∧ Below u.heap.size u w' := fun u h => piecesIn_is _ _ _ _ _ _ h.edges hle' _ hp0.out
          have hT : ∀ u, ArgNet w1 u n A1 c es → Calls Try.prog 16 #[.agg #[.int .i64 n, .slice A1 es.length c], .int .i64 s] u fun e w' => e = .returned (.int .i64 t) ∧ Below u.heap.size u w' := fun u h => thereOf_is _ _ _ _ _ _ h.edges hle' _ HT.out
          go_wp2_with fail
          refine wp_region_class (fun u => ArgNet w1 u n A1 c es) (by kernel_rfl) (by kernel_rfl) L.drew ?_
          intro X hX f hf hex
          have k0 : ∀ x, (f x).cell? ⟨w1.heap.size, 0, none⟩ = some (.int .i64 n) := fun x => (hf x).c0
          have k1 : ∀ x, (f x).cell? ⟨w1.heap.size, 1, none⟩ = some (.slice A1 es.length c) := fun x => (hf x).c1
          repeat (go_big_quiet_step (first
            | (go_at_call 23; with_reducible exact class_of hex (hC _ (hf _)) (hf _).on)
            | (go_at_call 16; with_reducible exact class_of hex (hT _ (hf _)) (hf _).on)))
          refine wpQuiet_nil ?_
          rintro _ ⟨x, rfl⟩
          have L4 := hf x
          go_wp2_with fail
          go_returns
          exact ⟨rfl, HB.out.trans (L4.below.mono s1)⟩
    · have HP : Hid (piecesI n es s = -1) := by simp [Hid, piecesI, hst]
      clear hst
      go_wp2_with fail
      refine (piecesIn_is _ _ _ _ _ _ L1.edges hle' (-1) HP.out).mono ?_
      rintro e2 w2 ⟨rfl, hb2⟩
      have L2 := L1.step hb2 L1.lt
      clear hb2
      obtain ⟨_, _, c0, c1, s2⟩ := id L2
      go_wp2_with fail
      refine (specPiecesIn_is _ _ _ _ _ _ L2.edges hle' (-1) HP.out).mono ?_
      rintro e3 w3 ⟨rfl, hb3⟩
      have L3 := L2.step hb3 L2.lt
      clear hb3
      obtain ⟨_, _, c0, c1, s3⟩ := id L3
      go_wp2_with fail
      refine (alive_any _).mono ?_
      rintro e4 w4 ⟨rfl, hb4⟩
      have L4 := L3.step hb4 L3.lt
      clear hb4
      obtain ⟨_, _, c0, c1, s4⟩ := id L4
      go_wp2_with fail
      go_returns
      exact ⟨rfl, HB.out.trans (L4.below.mono s1)⟩

namespace fnPiecesIn
open Go.ChangeShapes Go.WideShapes Go.ChangeAt Go.RowKit Go.Deep Go.Joins
set_option linter.unusedVariables false
set_option maxRecDepth 100000 in
theorem lifted (os : Os) (started : os.Started) (H : Type) (enc : TypeId × Value → H) :
    ReturnsInHanded {} Try.checked os 5 .any (Rows.fnPiecesInSpec.pre6 enc Try.prog Try.f5 Rows.fnPiecesInRow.domain false) (Rows.fnPiecesInSpec.post enc Try.prog Try.f5 false true false false) := by
  refine returnsInHanded_of_change (C := Try.checked) own started (by kernel_rfl) Try.func5
    (ChangeSpec.witness6 (enc := enc) (C := Try.checked) false ⟨#[], #[.slice none 0 0], []⟩ 8 (by kernel_rfl) (by kernel_rfl) (by kernel_rfl) (by kernel_rfl)) ?_
  intro W base args ds gs before hval0 hW hcnd _
  have hval : ∀ (j : Nat) t v, Try.f5.params[j]? = some t → args[j]? = some v → Value.okWide Try.prog W .any base t v := hval0
  have hW' := hW
  obtain ⟨p, q, hA0, hV, rfl, hfz, hnd⟩ := hW
  have hA : DataW.TrodAll enc Try.prog W 0 (fun _ => true) true Try.f5.params.toList args.toList ds p := hA0
  rw [Try.params5] at hA hval
  obtain ⟨v0, vs0, d0, ds0, p0, q0, hargs, rfl, rfl, h0, r0⟩ := trodAll_cons hA
  obtain ⟨rfl, rfl, rfl⟩ := trodAll_nil r0
  obtain rfl : args = #[v0] := by cases args; simp_all
  obtain ⟨rfl, rfl⟩ := trodVars_none hV
  have k0 := h0
  have lt0 : ∀ x ∈ p0, x.block < W.heap.size := by obtain ⟨m, hm⟩ := k0; exact DataW.trod_lt m _ _ _ hm
  obtain ⟨A0, c0, bs0, rfl, hb0, hl0⟩ := open_bytes (hval 0 22 v0 rfl rfl) h0
  clear hA0 hval0
  refine (piecesIn_law A0 c0 bs0 W hb0 hl0).mono fun e W' ⟨he, bel⟩ => ?_
  subst he
  exact ⟨_, rfl, _, _, _, [], _, [], hW', trodAll_mk1 (shut_bool Try.underlying4 _), (trodAll_cons_mk (Below.trod laidOut (by kernel_rfl) (of_decide_eq_true (by kernel_rfl)) k0 bel lt0) trodAll_mk0), rfl, bel.frame _, fun h => by cases h⟩

theorem holds : Rows.FnPiecesInSaid :=
  OpenClaim.holds_of_wide 5 Try.f5 rfl rfl rfl rfl rfl rfl rfl ⟨rfl, rfl, rfl, rfl, rfl⟩ rfl rfl rfl rfl rfl (by kernel_rfl) Try.func5 (by kernel_rfl)
    (of_decide_eq_true (by kernel_rfl)) (by unfold Func.isWrapper; first | (rw [if_pos (by decide +kernel)]; kernel_rfl) | (rw [if_neg (by decide +kernel)]; exact ⟨rfl, rfl⟩))
    (fun os started H enc _ => lifted os started H enc)
end fnPiecesIn
end Go.Proofs.Ytikmkdonbfngeab
