/- The law FnThereOf holds of every code: what is there and what is not are together all edges; nothing is there exactly in state 0; of what is no state the answer is -1. -/
import Derived.Test.YtikmkdonbfngeabBytes
import Derived.Test.YtikmkdonbfngeabDrawFns
import Derived.Test.YtikmkdonbfngeabState
import Derived.Test.YtikmkdonbfngeabClass
namespace Go.Proofs.Ytikmkdonbfngeab
open Go.RowKit
set_option maxRecDepth 100000

theorem pop_both_fin : ∀ l, l < 10 → ∀ k, k < 2 ^ l → pop k + pop (2 ^ l - 1 - k) = l ∧ (pop k = 0 ↔ k = 0) := by decide +kernel
theorem thereOf_is (n s : Int) (A : Option Addr) (cap : Nat) (es : List (Int × Int)) (w : World) (hes : EdgesIn w w.heap.size A es) (hl : es.length ≤ 1048576) (m : Int) (h : thereI n es s = m) :
    Calls Try.prog 16 #[.agg #[.int .i64 n, .slice A es.length cap], .int .i64 s] w fun e w' => e = .returned (.int .i64 m) ∧ Below w.heap.size w w' := h ▸ thereOf_any n s A cap es w hes hl
theorem specThereOf_is (n s : Int) (A : Option Addr) (cap : Nat) (es : List (Int × Int)) (w : World) (hes : EdgesIn w w.heap.size A es) (hl : es.length ≤ 1048576) (m : Int) (h : thereI n es s = m) :
    Calls Try.prog 17 #[.agg #[.int .i64 n, .slice A es.length cap], .int .i64 s] w fun e w' => e = .returned (.int .i64 m) ∧ Below w.heap.size w w' := h ▸ specThereOf_any n s A cap es w hes hl
theorem there_both {n s : Int} {es : List (Int × Int)} (h : stateOkB n es s = true) :
    ∃ P M : Int, thereI n es s = P ∧ thereI n es (2 ^ es.length - 1 - s) = M ∧ 0 ≤ P ∧ 0 ≤ M ∧ P + M = es.length ∧ (P = 0 ↔ s = 0) := by
  have hh := h
  simp only [stateOkB, Bool.and_eq_true, decide_eq_true_eq] at hh
  obtain ⟨hn, h0, h1⟩ := hh
  have h9 := (netOkB_iff.1 hn).2.1
  obtain ⟨k, rfl⟩ : ∃ k : Nat, s = k := ⟨s.toNat, by omega⟩
  have hk : k < 2 ^ es.length := by exact_mod_cast h1
  obtain ⟨hs, hz⟩ := pop_both_fin es.length (by omega) k hk
  have hc : (2 : Int) ^ es.length - 1 - (k : Int) = ((2 ^ es.length - 1 - k : Nat) : Int) := by
    have : ((2 ^ es.length : Nat) : Int) = (2 : Int) ^ es.length := by exact_mod_cast rfl
    omega
  have h2 : stateOkB n es (2 ^ es.length - 1 - (k : Int)) = true := by
    simp only [stateOkB, Bool.and_eq_true, decide_eq_true_eq]
    exact ⟨hn, by omega, by omega⟩
  refine ⟨pop k, pop (2 ^ es.length - 1 - k), by simp [thereI, h], ?_, by omega, by omega, by omega, by omega⟩
  rw [thereI, if_pos h2, hc]; simp

set_option maxRecDepth 100000 in
set_option maxHeartbeats 4000000 in
theorem thereOf_law (A : Option Addr) (cap l : Nat) (w : World) (hb : BytesIn w w.heap.size A l) (hc : l ≤ cap) :
    Calls Try.prog 3 #[.slice A l cap] w fun e w' => e = .returned (.bool true) ∧ Below w.heap.size w w' := by
  by_cases hbig : 1048576 < l
  · go_enter Try.func3, Try.ntmps3
    go_wp2
    go_returns
    exact ⟨rfl, Below.refl _ _⟩
  · have hl : l ≤ 1048576 := by omega
    clear hbig
    go_enter Try.func3, Try.ntmps3
    go_wp2_with fail
    refine (drawThereOf_any _ _ _ _ hb hl hc).mono ?_
    rintro e1 w1 ⟨n, A1, c, es, s, rfl, own, n1, n7, hle, sl, sh, hb1⟩
    have L1 := ArgNet.start (cap := c) (n := n) 25 own.edges
    have hcap := own.cap
    have HB := Lib.hid hb1
    have hle' : es.length ≤ 1048576 := by omega
    have s1 := hb1.size
    clear own hb hb1
    by_cases hok : stateOkB n es s = true
    · obtain ⟨P, M, hP, hM, p0, m0, hs, hz⟩ := there_both hok
      have hnn := (netOkB_iff.1 (by have := hok; simp only [stateOkB, Bool.and_eq_true] at this; exact this.1)).2.1
      have hp := pow_le es.length hnn
      have HP := Lib.hid hP
      have HM := Lib.hid hM
      have hEq : (P + M == (es.length : Int)) = true := by simpa using hs
      obtain ⟨bz, hz1, hz2⟩ : ∃ bz : Bool, (P == 0) = bz ∧ (s == 0) = bz := ⟨P == 0, rfl, by rw [Bool.eq_iff_iff]; simp [hz]⟩
      have HS := Lib.hid hs
      have hb9 : P + M ≤ 9 := by omega
      clear hok hP hM hs hz
      go_wp2_with fail
      refine (thereOf_is _ _ _ _ _ _ L1.edges hle' P HP.out).mono ?_
      rintro e2 w2 ⟨rfl, hb2⟩
      have L2 := L1.step hb2 L1.lt
      clear hb2
      obtain ⟨_, _, c0, c1, s2⟩ := id L2
      go_wp2_with fail
      refine (specThereOf_is _ _ _ _ _ _ L2.edges hle' P HP.out).mono ?_
      rintro e3 w3 ⟨rfl, hb3⟩
      have L3 := L2.step hb3 L2.lt
      clear hb3
      obtain ⟨_, _, c0, c1, s3⟩ := id L3
      go_wp2_with fail
      refine wp_region_class (fun u => ArgNet w1 u n A1 c es) (by kernel_rfl) (by kernel_rfl) L3.drew ?_
      intro X hX f hf hex
      have k0 : ∀ x, (f x).cell? ⟨w1.heap.size, 0, none⟩ = some (.int .i64 n) := fun x => (hf x).c0
      have k1 : ∀ x, (f x).cell? ⟨w1.heap.size, 1, none⟩ = some (.slice A1 es.length c) := fun x => (hf x).c1
      repeat (go_big_quiet_step (first
        | (go_at_call 16; with_reducible exact class_of hex (thereOf_is _ _ _ _ _ _ (hf _).edges hle' M HM.out) (hf _).on)))
      refine wpQuiet_nil ?_
      rintro _ ⟨x, rfl⟩
      have L4 := hf x
      go_wp2_with fail
      go_returns
      exact ⟨rfl, HB.out.trans (L4.below.mono s1)⟩
    · have HP : Hid (thereI n es s = -1) := by simp [Hid, thereI, hok]
      clear hok
      go_wp2_with fail
      refine (thereOf_is _ _ _ _ _ _ L1.edges hle' (-1) HP.out).mono ?_
      rintro e2 w2 ⟨rfl, hb2⟩
      have L2 := L1.step hb2 L1.lt
      clear hb2
      obtain ⟨_, _, c0, c1, s2⟩ := id L2
      go_wp2_with fail
      refine (specThereOf_is _ _ _ _ _ _ L2.edges hle' (-1) HP.out).mono ?_
      rintro e3 w3 ⟨rfl, hb3⟩
      have L3 := L2.step hb3 L2.lt
      clear hb3
      obtain ⟨_, _, c0, c1, s3⟩ := id L3
      go_wp2_with fail
      refine (alive_any _).mono ?_
      rintro e4 w4 ⟨rfl, hb4⟩
      have L4 := L3.step hb4 L3.lt
      clear hb4
      obtain ⟨_, _, c0, c1, s4⟩ := id L4
      go_wp2_with fail
      go_returns
      exact ⟨rfl, HB.out.trans (L4.below.mono s1)⟩

namespace fnThereOf
open Go.ChangeShapes Go.WideShapes Go.ChangeAt Go.RowKit Go.Deep Go.Joins
set_option linter.unusedVariables false
set_option maxRecDepth 100000 in
theorem lifted (os : Os) (started : os.Started) (H : Type) (enc : TypeId × Value → H) :
    ReturnsInHanded {} Try.checked os 3 .any (Rows.fnThereOfSpec.pre6 enc Try.prog Try.f3 Rows.fnThereOfRow.domain false) (Rows.fnThereOfSpec.post enc Try.prog Try.f3 false true false false) := by
  refine returnsInHanded_of_change (C := Try.checked) own started (by kernel_rfl) Try.func3
    (ChangeSpec.witness6 (enc := enc) (C := Try.checked) false ⟨#[], #[.slice none 0 0], []⟩ 8 (by kernel_rfl) (by kernel_rfl) (by kernel_rfl) (by kernel_rfl)) ?_
  intro W base args ds gs before hval0 hW hcnd _
  have hval : ∀ (j : Nat) t v, Try.f3.params[j]? = some t → args[j]? = some v → Value.okWide Try.prog W .any base t v := hval0
  have hW' := hW
  obtain ⟨p, q, hA0, hV, rfl, hfz, hnd⟩ := hW
  have hA : DataW.TrodAll enc Try.prog W 0 (fun _ => true) true Try.f3.params.toList args.toList ds p := hA0
  rw [Try.params3] at hA hval
  obtain ⟨v0, vs0, d0, ds0, p0, q0, hargs, rfl, rfl, h0, r0⟩ := trodAll_cons hA
  obtain ⟨rfl, rfl, rfl⟩ := trodAll_nil r0
  obtain rfl : args = #[v0] := by cases args; simp_all
  obtain ⟨rfl, rfl⟩ := trodVars_none hV
  have k0 := h0
  have lt0 : ∀ x ∈ p0, x.block < W.heap.size := by obtain ⟨m, hm⟩ := k0; exact DataW.trod_lt m _ _ _ hm
  obtain ⟨A0, c0, bs0, rfl, hb0, hl0⟩ := open_bytes (hval 0 22 v0 rfl rfl) h0
  clear hA0 hval0
  refine (thereOf_law A0 c0 bs0 W hb0 hl0).mono fun e W' ⟨he, bel⟩ => ?_
  subst he
  exact ⟨_, rfl, _, _, _, [], _, [], hW', trodAll_mk1 (shut_bool Try.underlying4 _), (trodAll_cons_mk (Below.trod laidOut (by kernel_rfl) (of_decide_eq_true (by kernel_rfl)) k0 bel lt0) trodAll_mk0), rfl, bel.frame _, fun h => by cases h⟩

theorem holds : Rows.FnThereOfSaid :=
  OpenClaim.holds_of_wide 3 Try.f3 rfl rfl rfl rfl rfl rfl rfl ⟨rfl, rfl, rfl, rfl, rfl⟩ rfl rfl rfl rfl rfl (by kernel_rfl) Try.func3 (by kernel_rfl)
    (of_decide_eq_true (by kernel_rfl)) (by unfold Func.isWrapper; first | (rw [if_pos (by decide +kernel)]; kernel_rfl) | (rw [if_neg (by decide +kernel)]; exact ⟨rfl, rfl⟩))
    (fun os started H enc _ => lifted os started H enc)
end fnThereOf
end Go.Proofs.Ytikmkdonbfngeab
