/- The law FnTreeOk holds of every code: a tree is whole and without a ring; without any edge of it it is not whole, and with any further one it has a ring. -/
import Derived.Test.YtmdmmebekicpkabBytes
import Derived.Test.YtmdmmebekicpkabDrawTreed
import Derived.Test.YtmdmmebekicpkabTreeL
import Derived.Test.YtmdmmebekicpkabMore2
import Derived.Test.YtmdmmebekicpkabClass
namespace Go.Proofs.Ytmdmmebekicpkab
open Go.RowKit
set_option maxRecDepth 100000

set_option maxHeartbeats 8000000 in
theorem treeOk_law (A : Option Addr) (cap l : Nat) (w : World) (hb : BytesIn w w.heap.size A l) (hc : l ≤ cap) :
    Calls Try.prog 6 #[.slice A l cap] w fun e w' => e = .returned (.bool true) ∧ Below w.heap.size w w' := by
  by_cases hbig : 1048576 < l
  · go_enter Try.func6, Try.ntmps6
    go_wp2
    go_returns
    exact ⟨rfl, Below.refl _ _⟩
  have hl : l ≤ 1048576 := by omega
  clear hbig
  go_enter Try.func6, Try.ntmps6
  go_wp2_with fail
  refine (drawTreeOk_any _ _ _ _ hb hl hc).mono ?_
  rintro e1 w1 ⟨n, A1, c, es, s, rfl, own, n1, n7, hle, sl, sh, hb1⟩
  have L1 := ArgNet.start (cap := c) (n := n) 25 own.edges
  have HB := Lib.hid hb1
  have hle' : es.length ≤ 1048576 := by omega
  have s1 := hb1.size
  clear own hb hb1 hl hc
  obtain ⟨ok, hok⟩ : ∃ ok, treeB n es s = ok := ⟨_, rfl⟩
  have HI : Hid (∀ (u : World), ArgNet w1 u n A1 c es → Calls Try.prog 26 #[.agg #[.int .i64 n, .slice A1 es.length c], .int .i64 s] u fun e w' => e = .returned (.bool ok) ∧ Below u.heap.size u w') := fun  u h => by rw [← hok]; exact treeOk_any n s A1 c es u h.edges hle'
  have HS : Hid (∀ (u : World), ArgNet w1 u n A1 c es → Calls Try.prog 24 #[.agg #[.int .i64 n, .slice A1 es.length c], .int .i64 s] u fun e w' => e = .returned (.bool ok) ∧ Below u.heap.size u w') := fun  u h => by rw [← hok]; exact specTreeOk_any n s A1 c es u h.edges hle'
  obtain ⟨_, _, c0, c1, s0⟩ := id L1
  go_wp2_with fail
  refine (HI.out _ L1).mono ?_
  rintro e2 w2 ⟨rfl, hb2⟩
  have L2 := L1.on _ hb2
  clear hb2 c0 c1 s0 L1
  obtain ⟨_, _, c0, c1, s0⟩ := id L2
  go_wp2_with fail
  refine (HS.out _ L2).mono ?_
  rintro e3 w3 ⟨rfl, hb3⟩
  have L3 := L2.on _ hb3
  clear hb3 c0 c1 s0 L2 HI HS
  obtain ⟨_, _, c0, c1, s0⟩ := id L3
  cases hst : stateOkB n es s with
  | false =>
    obtain rfl : ok = false := by rw [← hok]; unfold treeB; rw [hst]; rfl
    have HO := Lib.hid hst
    clear hst hok
    go_wp2_with fail
    refine (specStateOk_is _ _ _ _ _ _ L3.edges hle' false HO.out).mono ?_
    rintro e4 w4 ⟨rfl, hb4⟩
    have L4 := L3.on _ hb4
    go_wp2_with fail
    refine (alive_any _).mono ?_
    rintro e5 w5 ⟨rfl, hb5⟩
    have L5 := L4.on _ hb5
    go_wp2_with fail
    go_returns
    exact ⟨by first | rfl | simp, HB.out.trans (L5.below.mono s1)⟩
  | true =>
    have HO := Lib.hid hst
    obtain ⟨m, rfl, hm, hm5⟩ := state_nat hst
    have hnet := stateOkB_net hst
    have h9 := (netOkB_iff.1 hnet).2.1
    have HF := Lib.hid (tree_free hst)
    have HLESS : Hid (ok = true → ∀ k, k < es.length → m.testBit k = true → wholeB n es ((m - 2 ^ k : Nat) : Int) = false) := fun h k hk hb => tree_less (hok.trans h) hk hb
    have HMORE : Hid (ok = true → ∀ k, k < es.length → m.testBit k = false → freeB n es ((m ||| 2 ^ k : Nat) : Int) = false) := fun h k hk hb => tree_more (hok.trans h) hk hb
    rw [hok] at HF
    obtain ⟨vw, hvw⟩ : ∃ v, wholeB n es (m : Nat) = v := ⟨_, rfl⟩
    obtain ⟨vf, hvf⟩ : ∃ v, freeB n es (m : Nat) = v := ⟨_, rfl⟩
    rw [hvw, hvf] at HF
    have HW : Hid (∀ (u : World), ArgNet w1 u n A1 c es → Calls Try.prog 30 #[.agg #[.int .i64 n, .slice A1 es.length c], .int .i64 (m : Nat)] u fun e w' => e = .returned (.bool vw) ∧ Below u.heap.size u w') := fun u h => wholeOk_is _ _ _ _ _ _ h.edges hle' vw hvw
    have HR : Hid (∀ (u : World), ArgNet w1 u n A1 c es → Calls Try.prog 31 #[.agg #[.int .i64 n, .slice A1 es.length c], .int .i64 (m : Nat)] u fun e w' => e = .returned (.bool vf) ∧ Below u.heap.size u w') := fun u h => ringFreeOk_is _ _ _ _ _ _ h.edges hle' vf hvf
    -- the end: whole and without a ring
    have FIN : Hid (ok = (vw && vf)) := HF.out
    clear hst hok hnet hm hvw hvf HF
    go_wp2_with fail
    refine (specStateOk_is _ _ _ _ _ _ L3.edges hle' true HO.out).mono ?_
    rintro e4 w4 ⟨rfl, hb4⟩
    have L4 := L3.on _ hb4
    clear hb4 c0 c1 s0 L3
    go_wp2_with fail
    go_loopw [6] (fun i wr => ∃ k : Nat, k ≤ es.length ∧ i = .int .i64 (k : Nat) ∧ ArgNet w1 wr n A1 c es) (fun i _ => es.length - (intOf i).toNat)
    case atStart => exact ⟨0, by omega, rfl, L4⟩
    case round =>
      clear L4
      obtain ⟨k, hk, rfl, L⟩ := hrel
      obtain ⟨_, _, c0, c1, s0⟩ := id L
      by_cases hgo : k < es.length ∧ ok = true
      · obtain ⟨hlt, rfl⟩ := hgo
        have hbit := bit_tmod m k
        have hkmin : min k 64 = k := by omega
        cases hb : m.testBit k with
        | true =>
          rw [hb, if_pos rfl] at hbit
          have hle : 2 ^ k ≤ m := Nat.le_of_not_lt fun h => by rw [Nat.testBit_lt_two_pow h] at hb; cases hb
          have hless := HLESS.out rfl k hlt hb
          obtain ⟨P, hP, p1, p2, hp3, hp4⟩ := pow_named12 (show k ≤ 13 by omega)
          rw [hP] at hle hless
          have wr2 : IntKind.i64.wrap ((m : Int) - (P : Int)) = ((m - P : Nat) : Int) := wrap_minus hle hm5
          have HC : Hid (∀ (u : World), ArgNet w1 u n A1 c es → Calls Try.prog 30 #[.agg #[.int .i64 n, .slice A1 es.length c], .int .i64 (m - P : Nat)] u fun e w' => e = .returned (.bool false) ∧ Below u.heap.size u w') := fun u h => wholeOk_is _ _ _ _ _ _ h.edges hle' false hless
          clear hless hP hb hle
          generalize m - P = r at *
          go_wp2_with fail
          refine wp_region_class (fun u => ArgNet w1 u n A1 c es) (by kernel_rfl) (by kernel_rfl) L.drew ?_
          clear L c0 c1 s0
          intro X hX f hf hex
          have k0 : ∀ x, (f x).cell? ⟨w1.heap.size, 0, none⟩ = some (.int .i64 n) := fun x => (hf x).c0
          have k1 : ∀ x, (f x).cell? ⟨w1.heap.size, 1, none⟩ = some (.slice A1 es.length c) := fun x => (hf x).c1
          repeat (go_big_quiet_step (first | (go_at_call 30; with_reducible exact class_of hex (HC.out _ (hf _)) (hf _).on)))
          refine wpQuiet_nil ?_
          rintro _ ⟨x, rfl⟩
          have F := hf x
          clear k0 k1
          go_wp2_with fail
          go_roundw
          case rel => exact ⟨k + 1, by omega, by go_num, F⟩
          case measure => simp [intOf]; omega
        | false =>
          rw [hb, if_neg (by simp)] at hbit
          have hadd := add_or hm5 (show k < 9 by omega) hb
          have hM : m ||| 2 ^ k < 512 := Nat.or_lt_two_pow (n := 9) (by omega) (Nat.pow_lt_pow_right (by omega) (by omega))
          have hmore := HMORE.out rfl k hlt hb
          obtain ⟨P, hP, p1, p2, hp3, hp4⟩ := pow_named12 (show k ≤ 13 by omega)
          rw [hP] at hadd hM hmore
          have wr1 : IntKind.i64.wrap ((m : Int) + (P : Int)) = ((m ||| P : Nat) : Int) := wrap_plus hadd hM
          have HC : Hid (∀ (u : World), ArgNet w1 u n A1 c es → Calls Try.prog 31 #[.agg #[.int .i64 n, .slice A1 es.length c], .int .i64 (m ||| P : Nat)] u fun e w' => e = .returned (.bool false) ∧ Below u.heap.size u w') := fun u h => ringFreeOk_is _ _ _ _ _ _ h.edges hle' false hmore
          clear hmore hP hb hadd
          generalize m ||| P = r at *
          go_wp2_with fail
          refine wp_region_class (fun u => ArgNet w1 u n A1 c es) (by kernel_rfl) (by kernel_rfl) L.drew ?_
          clear L c0 c1 s0
          intro X hX f hf hex
          have k0 : ∀ x, (f x).cell? ⟨w1.heap.size, 0, none⟩ = some (.int .i64 n) := fun x => (hf x).c0
          have k1 : ∀ x, (f x).cell? ⟨w1.heap.size, 1, none⟩ = some (.slice A1 es.length c) := fun x => (hf x).c1
          repeat (go_big_quiet_step (first | (go_at_call 31; with_reducible exact class_of hex (HC.out _ (hf _)) (hf _).on)))
          refine wpQuiet_nil ?_
          rintro _ ⟨x, rfl⟩
          have F := hf x
          clear k0 k1
          go_wp2_with fail
          go_roundw
          case rel => exact ⟨k + 1, by omega, by go_num, F⟩
          case measure => simp [intOf]; omega
      · have hend : (∃ h : k = es.length, True) ∨ (k < es.length ∧ ok = false) := by
          by_cases h1 : k < es.length
          · cases ok with
            | false => exact .inr ⟨h1, rfl⟩
            | true => exact absurd ⟨h1, rfl⟩ hgo
          · exact .inl ⟨by omega, trivial⟩
        clear hgo HLESS HMORE
        have hdec : decide ((k : Int) < (es.length : Int)) = decide (k < es.length) := by rw [decide_eq_decide]; omega
        rcases hend with ⟨hke, -⟩ | ⟨hlt, rfl⟩
        · have hnl : ¬ ((k : Int) < (es.length : Int)) := by omega
          cases vw with
          | true =>
            have FIN2 : Hid ((ok == vf) = true) := by unfold Hid; rw [FIN.out]; simp
            go_wp2_with fail
            refine (HW.out _ L).mono ?_
            rintro e5 w5 ⟨rfl, hb5⟩
            have L5 := L.on _ hb5
            clear c0 c1 s0
            obtain ⟨_, _, c0, c1, s0⟩ := id L5
            go_wp2_with fail
            refine (HR.out _ L5).mono ?_
            rintro e6 w6 ⟨rfl, hb6⟩
            have L6 := L5.on _ hb6
            go_wp2_with fail
            go_returns
            exact ⟨by have := FIN2.out; first | rfl | (simp at this ⊢; exact this) | simp [this], HB.out.trans (L6.below.mono s1)⟩
          | false =>
            obtain rfl : ok = false := FIN.out
            go_wp2_with fail
            refine (HW.out _ L).mono ?_
            rintro e5 w5 ⟨rfl, hb5⟩
            have L5 := L.on _ hb5
            go_wp2_with fail
            go_returns
            exact ⟨by first | rfl | simp, HB.out.trans (L5.below.mono s1)⟩
        · have hpl : ((k : Int) < (es.length : Int)) := by omega
          cases vw with
          | true =>
            obtain rfl : vf = false := by have := FIN.out; simpa using this.symm
            go_wp2_with fail
            refine (HW.out _ L).mono ?_
            rintro e5 w5 ⟨rfl, hb5⟩
            have L5 := L.on _ hb5
            clear c0 c1 s0
            obtain ⟨_, _, c0, c1, s0⟩ := id L5
            go_wp2_with fail
            refine (HR.out _ L5).mono ?_
            rintro e6 w6 ⟨rfl, hb6⟩
            have L6 := L5.on _ hb6
            go_wp2_with fail
            go_returns
            exact ⟨by first | rfl | simp, HB.out.trans (L6.below.mono s1)⟩
          | false =>
            go_wp2_with fail
            refine (HW.out _ L).mono ?_
            rintro e5 w5 ⟨rfl, hb5⟩
            have L5 := L.on _ hb5
            go_wp2_with fail
            go_returns
            exact ⟨by first | rfl | simp, HB.out.trans (L5.below.mono s1)⟩

namespace fnTreeOk
open Go.ChangeShapes Go.WideShapes Go.ChangeAt Go.RowKit Go.Deep Go.Joins
set_option linter.unusedVariables false
set_option maxRecDepth 100000 in
theorem lifted (os : Os) (started : os.Started) (H : Type) (enc : TypeId × Value → H) :
    ReturnsInHanded {} Try.checked os 6 .any (Rows.fnTreeOkSpec.pre6 enc Try.prog Try.f6 Rows.fnTreeOkRow.domain false) (Rows.fnTreeOkSpec.post enc Try.prog Try.f6 false true false false) := by
  refine returnsInHanded_of_change (C := Try.checked) own started (by kernel_rfl) Try.func6
    (ChangeSpec.witness6 (enc := enc) (C := Try.checked) false ⟨#[], #[.slice none 0 0], []⟩ 8 (by kernel_rfl) (by kernel_rfl) (by kernel_rfl) (by kernel_rfl)) ?_
  intro W base args ds gs before hval0 hW hcnd _
  have hval : ∀ (j : Nat) t v, Try.f6.params[j]? = some t → args[j]? = some v → Value.okWide Try.prog W .any base t v := hval0
  have hW' := hW
  obtain ⟨p, q, hA0, hV, rfl, hfz, hnd⟩ := hW
  have hA : DataW.TrodAll enc Try.prog W 0 (fun _ => true) true Try.f6.params.toList args.toList ds p := hA0
  rw [Try.params6] at hA hval
  obtain ⟨v0, vs0, d0, ds0, p0, q0, hargs, rfl, rfl, h0, r0⟩ := trodAll_cons hA
  obtain ⟨rfl, rfl, rfl⟩ := trodAll_nil r0
  obtain rfl : args = #[v0] := by cases args; simp_all
  obtain ⟨rfl, rfl⟩ := trodVars_none hV
  have k0 := h0
  have lt0 : ∀ x ∈ p0, x.block < W.heap.size := by obtain ⟨m, hm⟩ := k0; exact DataW.trod_lt m _ _ _ hm
  obtain ⟨A0, c0, bs0, rfl, hb0, hl0⟩ := open_bytes (hval 0 22 v0 rfl rfl) h0
  clear hA0 hval0
  refine (treeOk_law A0 c0 bs0 W hb0 hl0).mono fun e W' ⟨he, bel⟩ => ?_
  subst he
  exact ⟨_, rfl, _, _, _, [], _, [], hW', trodAll_mk1 (shut_bool Try.underlying4 _), (trodAll_cons_mk (Below.trod laidOut (by kernel_rfl) (of_decide_eq_true (by kernel_rfl)) k0 bel lt0) trodAll_mk0), rfl, bel.frame _, fun h => by cases h⟩

theorem holds : Rows.FnTreeOkSaid :=
  OpenClaim.holds_of_wide 6 Try.f6 rfl rfl rfl rfl rfl rfl rfl ⟨rfl, rfl, rfl, rfl, rfl⟩ rfl rfl rfl rfl rfl (by kernel_rfl) Try.func6 (by kernel_rfl)
    (of_decide_eq_true (by kernel_rfl)) (by unfold Func.isWrapper; first | (rw [if_pos (by decide +kernel)]; kernel_rfl) | (rw [if_neg (by decide +kernel)]; exact ⟨rfl, rfl⟩))
    (fun os started H enc _ => lifted os started H enc)
end fnTreeOk
end Go.Proofs.Ytmdmmebekicpkab
