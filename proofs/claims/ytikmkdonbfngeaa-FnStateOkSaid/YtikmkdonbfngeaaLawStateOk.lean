/- The law FnStateOk holds of every code: of a net 0 is a state, and one less than 2 taken as often as there are edges; not this and 1, nor -1; what is no net has none. -/
import Derived.Test.YtikmkdonbfngeaaBytes
import Derived.Test.YtikmkdonbfngeaaDrawFns
import Derived.Test.YtikmkdonbfngeaaState
namespace Go.Proofs.Ytikmkdonbfngeaa
open Go.RowKit
set_option maxRecDepth 100000

theorem stateOk_is (n s : Int) (A : Option Addr) (cap : Nat) (es : List (Int × Int)) (w : World) (hes : EdgesIn w w.heap.size A es) (hl : es.length ≤ 1048576) (b : Bool) (h : stateOkB n es s = b) :
    Calls Try.prog 44 #[.agg #[.int .i64 n, .slice A es.length cap], .int .i64 s] w fun e w' => e = .returned (.bool b) ∧ Below w.heap.size w w' := h ▸ stateOk_any n s A cap es w hes hl
theorem specNetOk_is (n : Int) (A : Option Addr) (cap : Nat) (es : List (Int × Int)) (w : World) (hes : EdgesIn w w.heap.size A es) (hl : es.length ≤ 1048576) (b : Bool) (h : netOkB n es = b) :
    Calls Try.prog 46 #[.agg #[.int .i64 n, .slice A es.length cap]] w fun e w' => e = .returned (.bool b) ∧ Below w.heap.size w w' := h ▸ specNetOk_any n A cap es w hes hl

set_option maxRecDepth 100000 in
set_option maxHeartbeats 4000000 in
theorem stateOk_law (A : Option Addr) (cap l : Nat) (w : World) (hb : BytesIn w w.heap.size A l) (hc : l ≤ cap) :
    Calls Try.prog 13 #[.slice A l cap] w fun e w' => e = .returned (.bool true) ∧ Below w.heap.size w w' := by
  by_cases hbig : 1048576 < l
  · go_enter Try.func13, Try.ntmps13
    go_wp2
    go_returns
    exact ⟨rfl, Below.refl _ _⟩
  · have hl : l ≤ 1048576 := by omega
    clear hbig
    go_enter Try.func13, Try.ntmps13
    go_wp2_with fail
    refine (drawStateOk_any _ _ _ _ hb hl hc).mono ?_
    rintro e1 w1 ⟨n, A1, c, es, s, rfl, own, n1, n7, hle, sl, sh, hb1⟩
    have L1 := ArgNet.start (cap := c) (n := n) 25 own.edges
    have hcap := own.cap
    have HB := Lib.hid hb1
    have hle' : es.length ≤ 1048576 := by omega
    have s1 := hb1.size
    clear own hb hb1
    go_wp2_with fail
    refine (stateOk_any _ _ _ _ _ _ L1.edges hle').mono ?_
    rintro e2 w2 ⟨rfl, hb2⟩
    have L2 := L1.step hb2 L1.lt
    clear hb2
    obtain ⟨_, _, c0, c1, s2⟩ := id L2
    clear c0 c1
    have c0 := L2.c0
    have c1 := L2.c1
    go_wp2_with fail
    refine (specStateOk_any _ _ _ _ _ _ L2.edges hle').mono ?_
    rintro e3 w3 ⟨rfl, hb3⟩
    have L3 := L2.step hb3 L2.lt
    clear hb3
    obtain ⟨_, _, c0, c1, s3⟩ := id L3
    clear L1 L2
    by_cases hok : netOkB n es = true
    · have hp := pow_le es.length (netOkB_iff.1 hok).2.1
      have h9 := (netOkB_iff.1 hok).2.1
      have HOK := Lib.hid hok
      clear hok
      go_wp2_with fail
      refine (specNetOk_is _ _ _ _ _ L3.edges hle' true HOK.out).mono ?_
      rintro e4 w4 ⟨rfl, hb4⟩
      have L4 := L3.step hb4 L3.lt
      clear hb4
      obtain ⟨_, _, c0, c1, s4⟩ := id L4
      go_wp2_with fail
      refine (stateOk_is _ _ _ _ _ _ L4.edges hle' true (by simp [stateOkB, HOK.out] <;> omega)).mono ?_
      rintro e5 w5 ⟨rfl, hb5⟩
      have L5 := L4.step hb5 L4.lt
      clear hb5
      obtain ⟨_, _, c0, c1, s5⟩ := id L5
      go_wp2_with fail
      refine (stateOk_is _ _ _ _ _ _ L5.edges hle' true (by simp [stateOkB, HOK.out] <;> omega)).mono ?_
      rintro e6 w6 ⟨rfl, hb6⟩
      have L6 := L5.step hb6 L5.lt
      clear hb6
      obtain ⟨_, _, c0, c1, s6⟩ := id L6
      go_wp2_with fail
      refine (stateOk_is _ _ _ _ _ _ L6.edges hle' false (by simp [stateOkB, HOK.out] <;> omega)).mono ?_
      rintro e7 w7 ⟨rfl, hb7⟩
      have L7 := L6.step hb7 L6.lt
      clear hb7
      obtain ⟨_, _, c0, c1, s7⟩ := id L7
      go_wp2_with fail
      refine (stateOk_is _ _ _ _ _ _ L7.edges hle' false (by simp [stateOkB, HOK.out] <;> omega)).mono ?_
      rintro e8 w8 ⟨rfl, hb8⟩
      have L8 := L7.step hb8 L7.lt
      clear hb8
      obtain ⟨_, _, c0, c1, s8⟩ := id L8
      go_wp2_with fail
      go_returns
      exact ⟨rfl, HB.out.trans (L8.below.mono s1)⟩
    · have HOK : Hid (netOkB n es = false) := by simpa [Hid] using hok
      have HST : Hid (stateOkB n es s = false) := by simp [Hid, stateOkB, HOK.out]
      clear hok
      rw [HST.out]
      go_wp2_with fail
      refine (specNetOk_is _ _ _ _ _ L3.edges hle' false HOK.out).mono ?_
      rintro e4 w4 ⟨rfl, hb4⟩
      have L4 := L3.step hb4 L3.lt
      clear hb4
      obtain ⟨_, _, c0, c1, s4⟩ := id L4
      go_wp2_with fail
      refine (alive_any _).mono ?_
      rintro e5 w5 ⟨rfl, hb5⟩
      have L5 := L4.step hb5 L4.lt
      clear hb5
      obtain ⟨_, _, c0, c1, s5⟩ := id L5
      go_wp2_with fail
      go_returns
      exact ⟨rfl, HB.out.trans (L5.below.mono s1)⟩

namespace fnStateOk
open Go.ChangeShapes Go.WideShapes Go.ChangeAt Go.RowKit Go.Deep Go.Joins
set_option linter.unusedVariables false
set_option maxRecDepth 100000 in
theorem lifted (os : Os) (started : os.Started) (H : Type) (enc : TypeId × Value → H) :
    ReturnsInHanded {} Try.checked os 13 .any (Rows.fnStateOkSpec.pre6 enc Try.prog Try.f13 Rows.fnStateOkRow.domain false) (Rows.fnStateOkSpec.post enc Try.prog Try.f13 false true false false) := by
  refine returnsInHanded_of_change (C := Try.checked) own started (by kernel_rfl) Try.func13
    (ChangeSpec.witness6 (enc := enc) (C := Try.checked) false ⟨#[], #[.slice none 0 0], []⟩ 8 (by kernel_rfl) (by kernel_rfl) (by kernel_rfl) (by kernel_rfl)) ?_
  intro W base args ds gs before hval0 hW hcnd _
  have hval : ∀ (j : Nat) t v, Try.f13.params[j]? = some t → args[j]? = some v → Value.okWide Try.prog W .any base t v := hval0
  have hW' := hW
  obtain ⟨p, q, hA0, hV, rfl, hfz, hnd⟩ := hW
  have hA : DataW.TrodAll enc Try.prog W 0 (fun _ => true) true Try.f13.params.toList args.toList ds p := hA0
  rw [Try.params13] at hA hval
  obtain ⟨v0, vs0, d0, ds0, p0, q0, hargs, rfl, rfl, h0, r0⟩ := trodAll_cons hA
  obtain ⟨rfl, rfl, rfl⟩ := trodAll_nil r0
  obtain rfl : args = #[v0] := by cases args; simp_all
  obtain ⟨rfl, rfl⟩ := trodVars_none hV
  have k0 := h0
  have lt0 : ∀ x ∈ p0, x.block < W.heap.size := by obtain ⟨m, hm⟩ := k0; exact DataW.trod_lt m _ _ _ hm
  obtain ⟨A0, c0, bs0, rfl, hb0, hl0⟩ := open_bytes (hval 0 22 v0 rfl rfl) h0
  clear hA0 hval0
  refine (stateOk_law A0 c0 bs0 W hb0 hl0).mono fun e W' ⟨he, bel⟩ => ?_
  subst he
  exact ⟨_, rfl, _, _, _, [], _, [], hW', trodAll_mk1 (shut_bool Try.underlying4 _), (trodAll_cons_mk (Below.trod laidOut (by kernel_rfl) (of_decide_eq_true (by kernel_rfl)) k0 bel lt0) trodAll_mk0), rfl, bel.frame _, fun h => by cases h⟩

theorem holds : Rows.FnStateOkSaid :=
  OpenClaim.holds_of_wide 13 Try.f13 rfl rfl rfl rfl rfl rfl rfl ⟨rfl, rfl, rfl, rfl, rfl⟩ rfl rfl rfl rfl rfl (by kernel_rfl) Try.func13 (by kernel_rfl)
    (of_decide_eq_true (by kernel_rfl)) (by unfold Func.isWrapper; first | (rw [if_pos (by decide +kernel)]; kernel_rfl) | (rw [if_neg (by decide +kernel)]; exact ⟨rfl, rfl⟩))
    (fun os started H enc _ => lifted os started H enc)
end fnStateOk
end Go.Proofs.Ytikmkdonbfngeaa
