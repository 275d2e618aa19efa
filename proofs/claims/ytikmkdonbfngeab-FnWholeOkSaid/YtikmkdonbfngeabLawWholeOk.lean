/- The law FnWholeOk holds of every code: a state is whole exactly if each node is joined to the first one, and then at least one less edges than nodes are there; what is no state is not. -/
import Derived.Test.YtikmkdonbfngeabBytes
import Derived.Test.YtikmkdonbfngeabDrawFns
import Derived.Test.YtikmkdonbfngeabMore2
namespace Go.Proofs.Ytikmkdonbfngeab
open Go.RowKit
set_option maxRecDepth 100000

set_option maxRecDepth 100000 in
set_option maxHeartbeats 4000000 in
theorem wholeOk_law (A : Option Addr) (cap l : Nat) (w : World) (hb : BytesIn w w.heap.size A l) (hc : l ≤ cap) :
    Calls Try.prog 9 #[.slice A l cap] w fun e w' => e = .returned (.bool true) ∧ Below w.heap.size w w' := by
  by_cases hbig : 1048576 < l
  · go_enter Try.func9, Try.ntmps9
    go_wp2
    go_returns
    exact ⟨rfl, Below.refl _ _⟩
  · have hl : l ≤ 1048576 := by omega
    clear hbig
    go_enter Try.func9, Try.ntmps9
    go_wp2_with fail
    refine (drawWholeOk_any _ _ _ _ hb hl hc).mono ?_
    rintro e1 w1 ⟨n, A1, c, es, s, rfl, own, n1, n7, hle, sl, sh, hb1⟩
    have L1 := ArgNet.start (cap := c) (n := n) 25 own.edges
    have hcap := own.cap
    have HB := Lib.hid hb1
    have hle' : es.length ≤ 1048576 := by omega
    have s1 := hb1.size
    clear own hb hb1
    by_cases hst : stateOkB n es s = true
    · have HST := Lib.hid hst
      have hn6 := (netOkB_iff.1 (stateOkB_net hst)).1
      have HWA := Lib.hid (whole_all hst)
      have HWT := Lib.hid (fun h => whole_there hst h)
      have ht9 := there_lt hst
      obtain ⟨ok, hok⟩ : ∃ ok, wholeB n es s = ok := ⟨_, rfl⟩
      obtain ⟨t, hte⟩ : ∃ t : Int, thereI n es s = t := ⟨_, rfl⟩
      rw [hte] at ht9 HWT
      have HT := Lib.hid hte
      have HOK := Lib.hid hok
      rw [hok] at HWA HWT
      clear hst hok hte
      go_wp2_with fail
      refine (wholeOk_is _ _ _ _ _ _ L1.edges hle' ok HOK.out).mono ?_
      rintro e2 w2 ⟨rfl, hb2⟩
      have L2 := L1.step hb2 L1.lt
      clear hb2
      obtain ⟨_, _, c0, c1, s2⟩ := id L2
      go_wp2_with fail
      refine (specWholeOk_is _ _ _ _ _ _ L2.edges hle' ok HOK.out).mono ?_
      rintro e3 w3 ⟨rfl, hb3⟩
      have L3 := L2.step hb3 L2.lt
      clear hb3
      obtain ⟨_, _, c0, c1, s3⟩ := id L3
      go_wp2_with fail
      refine (specStateOk_is _ _ _ _ _ _ L3.edges hle' true HST.out).mono ?_
      rintro e4 w4 ⟨rfl, hb4⟩
      have L4 := L3.step hb4 L3.lt
      clear hb4
      obtain ⟨_, _, c0, c1, s4⟩ := id L4
      clear L1 L2 L3
      obtain ⟨N, rfl⟩ : ∃ N : Nat, n = N := ⟨n.toNat, by omega⟩
      simp only [Int.toNat_natCast] at HWA
      go_wp2_with fail
      go_loopw [6, 7] (fun v t wr => ∃ k : Nat, k ≤ N ∧ v = .bool (allJ N es s k) ∧ t = .int .i64 (k + 1 : Nat) ∧ ArgNet w1 wr N A1 c es) (fun _ t _ => N + 1 - (intOf t).toNat)
      case atStart => exact ⟨0, by omega, rfl, rfl, L4⟩
      case round =>
        clear L4
        obtain ⟨k, hk, rfl, rfl, L⟩ := hrel
        obtain ⟨_, _, c0, c1, s4⟩ := id L
        by_cases hlt : k < N
        · have hst : Hid (allJ N es s (k + 1) = (allJ N es s k && joinedB N es s 1 ((k + 1 : Nat) : Int))) := rfl
          cases ha : allJ N es s k with
          | false =>
            have hst' : Hid (allJ N es s (k + 1) = false) := by rw [Hid, hst.out, ha]; rfl
            clear hst ha
            go_wp2_with fail
            go_roundw
            case rel => exact ⟨k + 1, by omega, by rw [hst'.out], by go_num, L⟩
            case measure => simp [intOf]; omega
          | true =>
            obtain ⟨v, hv⟩ : ∃ v, joinedB N es s 1 ((k : Int) + 1) = v := ⟨_, rfl⟩
            have hst' : Hid (allJ N es s (k + 1) = v) := by rw [Hid, hst.out, ha, Bool.true_and, ← hv, Int.natCast_add]; rfl
            have hv := Lib.hid hv
            clear hst ha
            go_wp2_with fail
            refine (joinedOk_is _ _ _ _ _ _ _ _ L.edges hle' v hv.out).mono ?_
            rintro e8 w8 ⟨rfl, hb8⟩
            have L8 := L.step hb8 L.lt
            go_wp2_with fail
            go_roundw
            case rel => exact ⟨k + 1, by omega, by rw [hst'.out], by go_num, L8⟩
            case measure => simp [intOf]; omega
        · obtain rfl : k = N := by omega
          rw [HWA.out]
          cases ok with
          | true =>
            have hnt := HWT.out rfl
            have hnt' : (k : Int) - 1 ≤ t := hnt
            have hwt : IntKind.i64.wrap ((k : Int) - 1) = (k : Int) - 1 := IntWalk.i64_in _ (by omega)
            have hT : ∀ u, ArgNet w1 u k A1 c es → Calls Try.prog 16 #[.agg #[.int .i64 k, .slice A1 es.length c], .int .i64 s] u fun e w' => e = .returned (.int .i64 t) ∧ Below u.heap.size u w' := fun u h => thereOf_is _ _ _ _ _ _ h.edges hle' _ HT.out
            clear hnt
            go_wp2_with fail
            refine wp_region_class (fun u => ArgNet w1 u k A1 c es) (by kernel_rfl) (by kernel_rfl) L.drew ?_
            intro X hX f hf hex
            have k0 : ∀ x, (f x).cell? ⟨w1.heap.size, 0, none⟩ = some (.int .i64 k) := fun x => (hf x).c0
            have k1 : ∀ x, (f x).cell? ⟨w1.heap.size, 1, none⟩ = some (.slice A1 es.length c) := fun x => (hf x).c1
            repeat (go_big_quiet_step (first
              | (go_at_call 16; with_reducible exact class_of hex (hT _ (hf _)) (hf _).on)))
            refine wpQuiet_nil ?_
            rintro _ ⟨x, rfl⟩
            have L4 := hf x
            go_wp2_with fail
            go_returns
            exact ⟨rfl, HB.out.trans (L4.below.mono s1)⟩
          | false =>
            go_wp2_with fail
            refine wp_region_class (fun u => ArgNet w1 u k A1 c es) (by kernel_rfl) (by kernel_rfl) L.drew ?_
            intro X hX f hf hex
            have k0 : ∀ x, (f x).cell? ⟨w1.heap.size, 0, none⟩ = some (.int .i64 k) := fun x => (hf x).c0
            have k1 : ∀ x, (f x).cell? ⟨w1.heap.size, 1, none⟩ = some (.slice A1 es.length c) := fun x => (hf x).c1
            repeat (go_big_quiet_step (fail))
            refine wpQuiet_nil ?_
            rintro _ ⟨x, rfl⟩
            have L4 := hf x
            go_wp2_with fail
            go_returns
            exact ⟨rfl, HB.out.trans (L4.below.mono s1)⟩
    · have HST := Lib.hid (not_state hst)
      have HOK := Lib.hid (whole_not (not_state hst))
      clear hst
      go_wp2_with fail
      refine (wholeOk_is _ _ _ _ _ _ L1.edges hle' false HOK.out).mono ?_
      rintro e2 w2 ⟨rfl, hb2⟩
      have L2 := L1.step hb2 L1.lt
      clear hb2
      obtain ⟨_, _, c0, c1, s2⟩ := id L2
      go_wp2_with fail
      refine (specWholeOk_is _ _ _ _ _ _ L2.edges hle' false HOK.out).mono ?_
      rintro e3 w3 ⟨rfl, hb3⟩
      have L3 := L2.step hb3 L2.lt
      clear hb3
      obtain ⟨_, _, c0, c1, s3⟩ := id L3
      go_wp2_with fail
      refine (specStateOk_is _ _ _ _ _ _ L3.edges hle' false HST.out).mono ?_
      rintro e4 w4 ⟨rfl, hb4⟩
      have L4 := L3.step hb4 L3.lt
      clear hb4
      obtain ⟨_, _, c0, c1, s4⟩ := id L4
      go_wp2_with fail
      refine (alive_any _).mono ?_
      rintro e5 w5 ⟨rfl, hb5⟩
      have L5 := L4.step hb5 L4.lt
      clear hb5
      obtain ⟨_, _, c0, c1, s5⟩ := id L5
      go_wp2_with fail
      go_returns
      exact ⟨rfl, HB.out.trans (L5.below.mono s1)⟩

namespace fnWholeOk
open Go.ChangeShapes Go.WideShapes Go.ChangeAt Go.RowKit Go.Deep Go.Joins
set_option linter.unusedVariables false
set_option maxRecDepth 100000 in
theorem lifted (os : Os) (started : os.Started) (H : Type) (enc : TypeId × Value → H) :
    ReturnsInHanded {} Try.checked os 9 .any (Rows.fnWholeOkSpec.pre6 enc Try.prog Try.f9 Rows.fnWholeOkRow.domain false) (Rows.fnWholeOkSpec.post enc Try.prog Try.f9 false true false false) := by
  refine returnsInHanded_of_change (C := Try.checked) own started (by kernel_rfl) Try.func9
    (ChangeSpec.witness6 (enc := enc) (C := Try.checked) false ⟨#[], #[.slice none 0 0], []⟩ 8 (by kernel_rfl) (by kernel_rfl) (by kernel_rfl) (by kernel_rfl)) ?_
  intro W base args ds gs before hval0 hW hcnd _
  have hval : ∀ (j : Nat) t v, Try.f9.params[j]? = some t → args[j]? = some v → Value.okWide Try.prog W .any base t v := hval0
  have hW' := hW
  obtain ⟨p, q, hA0, hV, rfl, hfz, hnd⟩ := hW
  have hA : DataW.TrodAll enc Try.prog W 0 (fun _ => true) true Try.f9.params.toList args.toList ds p := hA0
  rw [Try.params9] at hA hval
  obtain ⟨v0, vs0, d0, ds0, p0, q0, hargs, rfl, rfl, h0, r0⟩ := trodAll_cons hA
  obtain ⟨rfl, rfl, rfl⟩ := trodAll_nil r0
  obtain rfl : args = #[v0] := by cases args; simp_all
  obtain ⟨rfl, rfl⟩ := trodVars_none hV
  have k0 := h0
  have lt0 : ∀ x ∈ p0, x.block < W.heap.size := by obtain ⟨m, hm⟩ := k0; exact DataW.trod_lt m _ _ _ hm
  obtain ⟨A0, c0, bs0, rfl, hb0, hl0⟩ := open_bytes (hval 0 22 v0 rfl rfl) h0
  clear hA0 hval0
  refine (wholeOk_law A0 c0 bs0 W hb0 hl0).mono fun e W' ⟨he, bel⟩ => ?_
  subst he
  exact ⟨_, rfl, _, _, _, [], _, [], hW', trodAll_mk1 (shut_bool Try.underlying4 _), (trodAll_cons_mk (Below.trod laidOut (by kernel_rfl) (of_decide_eq_true (by kernel_rfl)) k0 bel lt0) trodAll_mk0), rfl, bel.frame _, fun h => by cases h⟩

theorem holds : Rows.FnWholeOkSaid :=
  OpenClaim.holds_of_wide 9 Try.f9 rfl rfl rfl rfl rfl rfl rfl ⟨rfl, rfl, rfl, rfl, rfl⟩ rfl rfl rfl rfl rfl (by kernel_rfl) Try.func9 (by kernel_rfl)
    (of_decide_eq_true (by kernel_rfl)) (by unfold Func.isWrapper; first | (rw [if_pos (by decide +kernel)]; kernel_rfl) | (rw [if_neg (by decide +kernel)]; exact ⟨rfl, rfl⟩))
    (fun os started H enc _ => lifted os started H enc)
end fnWholeOk
end Go.Proofs.Ytikmkdonbfngeab
