/- The law FnRingFreeOk holds of every code: without rings is kept without any edge that is there; it holds exactly if each edge that is there makes one piece more if it is taken away; it holds without edges; what is no state is not. -/
import Derived.Test.YtikmkdonbfngeabBytes
import Derived.Test.YtikmkdonbfngeabDrawFns
import Derived.Test.YtikmkdonbfngeabMore3
namespace Go.Proofs.Ytikmkdonbfngeab
open Go.RowKit
set_option maxRecDepth 100000

set_option maxRecDepth 100000 in
set_option maxHeartbeats 4000000 in
theorem ringFreeOk_law (A : Option Addr) (cap l : Nat) (w : World) (hb : BytesIn w w.heap.size A l) (hc : l ≤ cap) :
    Calls Try.prog 13 #[.slice A l cap] w fun e w' => e = .returned (.bool true) ∧ Below w.heap.size w w' := by
  by_cases hbig : 1048576 < l
  · go_enter Try.func13, Try.ntmps13
    go_wp2
    go_returns
    exact ⟨rfl, Below.refl _ _⟩
  · have hl : l ≤ 1048576 := by omega
    clear hbig
    go_enter Try.func13, Try.ntmps13
    go_wp2_with fail
    refine (drawRingFreeOk_any _ _ _ _ hb hl hc).mono ?_
    rintro e1 w1 ⟨n, A1, c, es, s, rfl, own, n1, n7, hle, sl, sh, hb1⟩
    have L1 := ArgNet.start (cap := c) (n := n) 25 own.edges
    have hcap := own.cap
    have HB := Lib.hid hb1
    have hle' : es.length ≤ 1048576 := by omega
    have s1 := hb1.size
    clear own hb hb1
    by_cases hst : stateOkB n es s = true
    · obtain ⟨m, rfl, _, hm⟩ := state_nat hst
      have HST := Lib.hid hst
      have hn6 := (netOkB_iff.1 (stateOkB_net hst)).1
      have hl9 := (netOkB_iff.1 (stateOkB_net hst)).2.1
      have HFE := Lib.hid (free_each hst)
      have HF0 := Lib.hid (free_zero (stateOkB_net hst))
      have HFS := Lib.hid (fun (k : Nat) (hk : k < es.length) hb hf => free_sub hst hk hb hf)
      have HLO := Lib.hid (fun (k : Nat) (hk : k < es.length) hb => less_ok hst hk hb)
      have hp6 := (piecesI_lt hst).2
      obtain ⟨p, hpe⟩ : ∃ p : Int, ((piecesB n es m : Nat) : Int) = p := ⟨_, rfl⟩
      have HP := Lib.hid ((piecesI_lt hst).1.trans hpe)
      have hp6 : p ≤ 6 := by omega
      have hp0 : 0 ≤ p := by omega
      obtain ⟨ok, hok⟩ : ∃ ok, freeB n es m = ok := ⟨_, rfl⟩
      have HOK := Lib.hid hok
      rw [hok] at HFE HFS
      clear hst hok hpe
      go_wp2_with fail
      refine (ringFreeOk_is _ _ _ _ _ _ L1.edges hle' ok HOK.out).mono ?_
      rintro e2 w2 ⟨rfl, hb2⟩
      have L2 := L1.step hb2 L1.lt
      clear hb2
      obtain ⟨_, _, c0, c1, s2⟩ := id L2
      go_wp2_with fail
      refine (specRingFreeOk_is _ _ _ _ _ _ L2.edges hle' ok HOK.out).mono ?_
      rintro e3 w3 ⟨rfl, hb3⟩
      have L3 := L2.step hb3 L2.lt
      clear hb3
      obtain ⟨_, _, c0, c1, s3⟩ := id L3
      go_wp2_with fail
      refine (specStateOk_is _ _ _ _ _ _ L3.edges hle' true HST.out).mono ?_
      rintro e4 w4 ⟨rfl, hb4⟩
      have L4 := L3.step hb4 L3.lt
      clear hb4
      obtain ⟨_, _, c0, c1, s4⟩ := id L4
      clear L1 L2 L3
      go_wp2_with fail
      go_loopw [6, 7] (fun v t wr => ∃ k : Nat, k ≤ es.length ∧ v = .bool (eachJ n es m k) ∧ t = .int .i64 (k : Nat) ∧ ArgNet w1 wr n A1 c es) (fun _ t _ => es.length - (intOf t).toNat)
      case atStart => exact ⟨0, by omega, rfl, rfl, L4⟩
      case round =>
        clear L4
        obtain ⟨k, hk, rfl, rfl, L⟩ := hrel
        obtain ⟨_, _, c0, c1, s4⟩ := id L
        by_cases hlt : k < es.length
        · have hst : Hid (eachJ n es m (k + 1) = (eachJ n es m k && (if bits m k = true then decide (piecesI n es ((m - 2 ^ k : Nat) : Int) = piecesI n es m + 1) else true))) := rfl
          have hz := bit_val m k
          cases hbit : bits m k with
          | false =>
            rw [hbit] at hz
            have hz0 : ((m : Int) / 2 ^ k).tmod 2 = 0 := by simpa using hz
            have hst' : Hid (eachJ n es m (k + 1) = eachJ n es m k) := by rw [Hid, hst.out, hbit]; simp
            clear hst hz hbit
            generalize hv : eachJ n es m k = v at *
            clear hv
            go_wp2_with fail
            go_roundw
            case rel => exact ⟨k + 1, by omega, by rw [hst'.out], by go_num, L⟩
            case measure => simp [intOf]; omega
          | true =>
            rw [hbit] at hz
            have hz1 : ((m : Int) / 2 ^ k).tmod 2 = 1 := by simpa using hz
            have hlo := HLO.out k hlt hbit
            have hsw := sub_wrap m k hm (by omega) hlo.1
            have hfs := Lib.hid (HFS.out k hlt hbit)
            rw [hbit, if_pos rfl, HP.out] at hst
            obtain ⟨X, hX⟩ : ∃ X : Int, ((m - 2 ^ k : Nat) : Int) = X := ⟨_, rfl⟩
            rw [hX] at hsw hst hfs
            obtain ⟨v1, hv1⟩ : ∃ v1, piecesI n es X = v1 := ⟨_, rfl⟩
            rw [hv1] at hst
            have hv1 := Lib.hid hv1
            have hpw : IntKind.i64.wrap (p + 1) = p + 1 := IntWalk.i64_in _ (by omega)
            have hC1 : ∀ u, ArgNet w1 u n A1 c es → Calls Try.prog 23 #[.agg #[.int .i64 n, .slice A1 es.length c], .int .i64 X] u fun e w' => e = .returned (.int .i64 v1) ∧ Below u.heap.size u w' := fun u h => piecesIn_is _ _ _ _ _ _ h.edges hle' _ hv1.out
            have hC2 : ∀ u, ArgNet w1 u n A1 c es → Calls Try.prog 23 #[.agg #[.int .i64 n, .slice A1 es.length c], .int .i64 m] u fun e w' => e = .returned (.int .i64 p) ∧ Below u.heap.size u w' := fun u h => piecesIn_is _ _ _ _ _ _ h.edges hle' _ HP.out
            clear hz hbit hlo hX
            cases ha : eachJ n es m k with
            | false =>
              have hst' : Hid (eachJ n es m (k + 1) = false) := by rw [Hid, hst.out, ha]; rfl
              clear hst ha
              cases ok with
              | true =>
                have hfs' := Lib.hid (hfs.out rfl)
                go_wp2_with fail
                refine wp_region_class (fun u => ArgNet w1 u n A1 c es) (by kernel_rfl) (by kernel_rfl) L.drew ?_
                intro X hX f hf hex
                have k0 : ∀ x, (f x).cell? ⟨w1.heap.size, 0, none⟩ = some (.int .i64 n) := fun x => (hf x).c0
                have k1 : ∀ x, (f x).cell? ⟨w1.heap.size, 1, none⟩ = some (.slice A1 es.length c) := fun x => (hf x).c1
                repeat (go_big_quiet_step (fail))
                refine wpQuiet_nil ?_
                rintro _ ⟨x, rfl⟩
                have L4 := hf x
                clear k0 k1
                obtain ⟨_, _, c0, c1, s5⟩ := id L4
                go_wp2_with fail
                refine (ringFreeOk_is _ _ _ _ _ _ L4.edges hle' true hfs'.out).mono ?_
                rintro e8 w8 ⟨rfl, hb8⟩
                have L8 := L4.step hb8 L4.lt
                go_wp2_with fail
                go_roundw
                case rel => exact ⟨k + 1, by omega, by rw [hst'.out], by go_num, L8⟩
                case measure => simp [intOf]; omega
              | false =>
                go_wp2_with fail
                refine wp_region_class (fun u => ArgNet w1 u n A1 c es) (by kernel_rfl) (by kernel_rfl) L.drew ?_
                intro X hX f hf hex
                have k0 : ∀ x, (f x).cell? ⟨w1.heap.size, 0, none⟩ = some (.int .i64 n) := fun x => (hf x).c0
                have k1 : ∀ x, (f x).cell? ⟨w1.heap.size, 1, none⟩ = some (.slice A1 es.length c) := fun x => (hf x).c1
                repeat (go_big_quiet_step (fail))
                refine wpQuiet_nil ?_
                rintro _ ⟨x, rfl⟩
                have L4 := hf x
                go_wp2_with fail
                go_roundw
                case rel => exact ⟨k + 1, by omega, by rw [hst'.out], by go_num, L4⟩
                case measure => simp [intOf]; omega
            | true =>
              have hst' : Hid (eachJ n es m (k + 1) = (v1 == p + 1)) := by rw [Hid, hst.out, ha, Bool.true_and]; rfl
              clear hst ha
              cases ok with
              | true =>
                have hfs' := Lib.hid (hfs.out rfl)
                go_wp2_with fail
                refine wp_region_class (fun u => ArgNet w1 u n A1 c es) (by kernel_rfl) (by kernel_rfl) L.drew ?_
                intro X hX f hf hex
                have k0 : ∀ x, (f x).cell? ⟨w1.heap.size, 0, none⟩ = some (.int .i64 n) := fun x => (hf x).c0
                have k1 : ∀ x, (f x).cell? ⟨w1.heap.size, 1, none⟩ = some (.slice A1 es.length c) := fun x => (hf x).c1
                repeat (go_big_quiet_step (first
                  | (go_at_call 23; with_reducible exact class_of hex (hC1 _ (hf _)) (hf _).on)
                  | (go_at_call 23; with_reducible exact class_of hex (hC2 _ (hf _)) (hf _).on)))
                refine wpQuiet_nil ?_
                rintro _ ⟨x, rfl⟩
                have L4 := hf x
                clear k0 k1
                obtain ⟨_, _, c0, c1, s5⟩ := id L4
                go_wp2_with fail
                refine (ringFreeOk_is _ _ _ _ _ _ L4.edges hle' true hfs'.out).mono ?_
                rintro e8 w8 ⟨rfl, hb8⟩
                have L8 := L4.step hb8 L4.lt
                go_wp2_with fail
                go_roundw
                case rel => exact ⟨k + 1, by omega, by rw [hst'.out], by go_num, L8⟩
                case measure => simp [intOf]; omega
              | false =>
                go_wp2_with fail
                refine wp_region_class (fun u => ArgNet w1 u n A1 c es) (by kernel_rfl) (by kernel_rfl) L.drew ?_
                intro X hX f hf hex
                have k0 : ∀ x, (f x).cell? ⟨w1.heap.size, 0, none⟩ = some (.int .i64 n) := fun x => (hf x).c0
                have k1 : ∀ x, (f x).cell? ⟨w1.heap.size, 1, none⟩ = some (.slice A1 es.length c) := fun x => (hf x).c1
                repeat (go_big_quiet_step (first
                  | (go_at_call 23; with_reducible exact class_of hex (hC1 _ (hf _)) (hf _).on)
                  | (go_at_call 23; with_reducible exact class_of hex (hC2 _ (hf _)) (hf _).on)))
                refine wpQuiet_nil ?_
                rintro _ ⟨x, rfl⟩
                have L4 := hf x
                go_wp2_with fail
                go_roundw
                case rel => exact ⟨k + 1, by omega, by rw [hst'.out], by go_num, L4⟩
                case measure => simp [intOf]; omega
        · obtain rfl : k = es.length := by omega
          rw [HFE.out]
          cases ok <;>
          · go_wp2_with fail
            refine (ringFreeOk_is _ _ _ _ _ _ L.edges hle' true HF0.out).mono ?_
            rintro e8 w8 ⟨rfl, hb8⟩
            have L8 := L.step hb8 L.lt
            go_wp2_with fail
            go_returns
            exact ⟨rfl, HB.out.trans (L8.below.mono s1)⟩
    · have HST := Lib.hid (not_state hst)
      have HOK := Lib.hid (free_not (not_state hst))
      clear hst
      go_wp2_with fail
      refine (ringFreeOk_is _ _ _ _ _ _ L1.edges hle' false HOK.out).mono ?_
      rintro e2 w2 ⟨rfl, hb2⟩
      have L2 := L1.step hb2 L1.lt
      clear hb2
      obtain ⟨_, _, c0, c1, s2⟩ := id L2
      go_wp2_with fail
      refine (specRingFreeOk_is _ _ _ _ _ _ L2.edges hle' false HOK.out).mono ?_
      rintro e3 w3 ⟨rfl, hb3⟩
      have L3 := L2.step hb3 L2.lt
      clear hb3
      obtain ⟨_, _, c0, c1, s3⟩ := id L3
      go_wp2_with fail
      refine (specStateOk_is _ _ _ _ _ _ L3.edges hle' false HST.out).mono ?_
      rintro e4 w4 ⟨rfl, hb4⟩
      have L4 := L3.step hb4 L3.lt
      clear hb4
      obtain ⟨_, _, c0, c1, s4⟩ := id L4
      go_wp2_with fail
      refine (alive_any _).mono ?_
      rintro e5 w5 ⟨rfl, hb5⟩
      have L5 := L4.step hb5 L4.lt
      clear hb5
      obtain ⟨_, _, c0, c1, s5⟩ := id L5
      go_wp2_with fail
      go_returns
      exact ⟨rfl, HB.out.trans (L5.below.mono s1)⟩

namespace fnRingFreeOk
open Go.ChangeShapes Go.WideShapes Go.ChangeAt Go.RowKit Go.Deep Go.Joins
set_option linter.unusedVariables false
set_option maxRecDepth 100000 in
theorem lifted (os : Os) (started : os.Started) (H : Type) (enc : TypeId × Value → H) :
    ReturnsInHanded {} Try.checked os 13 .any (Rows.fnRingFreeOkSpec.pre6 enc Try.prog Try.f13 Rows.fnRingFreeOkRow.domain false) (Rows.fnRingFreeOkSpec.post enc Try.prog Try.f13 false true false false) := by
  refine returnsInHanded_of_change (C := Try.checked) own started (by kernel_rfl) Try.func13
    (ChangeSpec.witness6 (enc := enc) (C := Try.checked) false ⟨#[], #[.slice none 0 0], []⟩ 8 (by kernel_rfl) (by kernel_rfl) (by kernel_rfl) (by kernel_rfl)) ?_
  intro W base args ds gs before hval0 hW hcnd _
  have hval : ∀ (j : Nat) t v, Try.f13.params[j]? = some t → args[j]? = some v → Value.okWide Try.prog W .any base t v := hval0
  have hW' := hW
  obtain ⟨p, q, hA0, hV, rfl, hfz, hnd⟩ := hW
  have hA : DataW.TrodAll enc Try.prog W 0 (fun _ => true) true Try.f13.params.toList args.toList ds p := hA0
  rw [Try.params13] at hA hval
  obtain ⟨v0, vs0, d0, ds0, p0, q0, hargs, rfl, rfl, h0, r0⟩ := trodAll_cons hA
  obtain ⟨rfl, rfl, rfl⟩ := trodAll_nil r0
  obtain rfl : args = #[v0] := by cases args; simp_all
  obtain ⟨rfl, rfl⟩ := trodVars_none hV
  have k0 := h0
  have lt0 : ∀ x ∈ p0, x.block < W.heap.size := by obtain ⟨m, hm⟩ := k0; exact DataW.trod_lt m _ _ _ hm
  obtain ⟨A0, c0, bs0, rfl, hb0, hl0⟩ := open_bytes (hval 0 22 v0 rfl rfl) h0
  clear hA0 hval0
  refine (ringFreeOk_law A0 c0 bs0 W hb0 hl0).mono fun e W' ⟨he, bel⟩ => ?_
  subst he
  exact ⟨_, rfl, _, _, _, [], _, [], hW', trodAll_mk1 (shut_bool Try.underlying4 _), (trodAll_cons_mk (Below.trod laidOut (by kernel_rfl) (of_decide_eq_true (by kernel_rfl)) k0 bel lt0) trodAll_mk0), rfl, bel.frame _, fun h => by cases h⟩

theorem holds : Rows.FnRingFreeOkSaid :=
  OpenClaim.holds_of_wide 13 Try.f13 rfl rfl rfl rfl rfl rfl rfl ⟨rfl, rfl, rfl, rfl, rfl⟩ rfl rfl rfl rfl rfl (by kernel_rfl) Try.func13 (by kernel_rfl)
    (of_decide_eq_true (by kernel_rfl)) (by unfold Func.isWrapper; first | (rw [if_pos (by decide +kernel)]; kernel_rfl) | (rw [if_neg (by decide +kernel)]; exact ⟨rfl, rfl⟩))
    (fun os started H enc _ => lifted os started H enc)
end fnRingFreeOk
end Go.Proofs.Ytikmkdonbfngeab
