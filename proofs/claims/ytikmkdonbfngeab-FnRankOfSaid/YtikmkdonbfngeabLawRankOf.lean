/- The law FnRankOf holds of every two codes: the rank is at most the edges that are there; of a further state, what both have and what either has have together at most both ranks; and what has more has no less. -/
import Derived.Test.YtikmkdonbfngeabBytes
import Derived.Test.YtikmkdonbfngeabDrawFns
import Derived.Test.YtikmkdonbfngeabMore4
namespace Go.Proofs.Ytikmkdonbfngeab
open Go.RowKit
set_option maxRecDepth 100000

set_option maxRecDepth 100000 in
set_option maxHeartbeats 4000000 in
theorem rankOf_law (A : Option Addr) (cap l : Nat) (A2 : Option Addr) (cap2 l2 : Nat) (w : World) (hb : BytesIn w w.heap.size A l) (hc : l ≤ cap) (hb2 : BytesIn w w.heap.size A2 l2) (hc2 : l2 ≤ cap2) :
    Calls Try.prog 11 #[.slice A l cap, .slice A2 l2 cap2] w fun e w' => e = .returned (.bool true) ∧ Below w.heap.size w w' := by
  by_cases hbig : 1048576 < l
  · go_enter Try.func11, Try.ntmps11
    go_wp2
    go_returns
    exact ⟨rfl, Below.refl _ _⟩
  by_cases hbig2 : 1048576 < l2
  · go_enter Try.func11, Try.ntmps11
    go_wp2
    all_goals
      go_returns
      exact ⟨rfl, Below.refl _ _⟩
  · have hl : l ≤ 1048576 := by omega
    have hl2 : l2 ≤ 1048576 := by omega
    clear hbig hbig2
    go_enter Try.func11, Try.ntmps11
    go_wp2_with fail
    refine (drawRankOf_any _ _ _ _ hb hl hc).mono ?_
    rintro e1 w1 ⟨n, A1, c, es, s, rfl, own, n1, n7, hle, sl, sh, hb1⟩
    have L1 := ArgNet.start (cap := c) (n := n) 25 own.edges
    have hcap := own.cap
    have HB := Lib.hid hb1
    have hle' : es.length ≤ 1048576 := by omega
    have s1 := hb1.size
    have hby : ∀ k, k < l2 → ∃ b off x, A2 = some ⟨b, off, none⟩ ∧ b < w1.heap.size ∧ w1.cell? ⟨b, off + k, none⟩ = some (.int .u8 x) ∧ 0 ≤ x ∧ x ≤ 255 := fun k hk => by
      obtain ⟨b, off, x, e, hlt, h1, h2, h3⟩ := hb2 k hk
      exact ⟨b, off, x, e, by omega, (hb1.cell (p := ⟨b, _, none⟩) hlt).trans h1, h2, h3⟩
    clear own hb hb1 hb2
    by_cases hst : stateOkB n es s = true
    · obtain ⟨m, rfl, _, hm⟩ := state_nat hst
      have HST := Lib.hid hst
      have hnet := stateOkB_net hst
      have hn6 := (netOkB_iff.1 hnet).1
      have hl9 := (netOkB_iff.1 hnet).2.1
      have hrb := rank_bounds hst
      have hrt := rank_there hst
      obtain ⟨t, hte⟩ : ∃ t : Int, thereI n es m = t := ⟨_, rfl⟩
      obtain ⟨r, hre⟩ : ∃ r : Int, rankI n es m = r := ⟨_, rfl⟩
      rw [hre] at hrb hrt
      rw [hte] at hrt
      have HT := Lib.hid hte
      have HR := Lib.hid hre
      have HNET := Lib.hid hnet
      clear hst hte hre hnet
      go_wp2_with fail
      refine (rankOf_is _ _ _ _ _ _ L1.edges hle' r HR.out).mono ?_
      rintro e2 w2 ⟨rfl, hb2⟩
      have L2 := L1.step hb2 L1.lt
      clear hb2
      obtain ⟨_, _, c0, c1, s2⟩ := id L2
      go_wp2_with fail
      refine (specRankOf_is _ _ _ _ _ _ L2.edges hle' r HR.out).mono ?_
      rintro e3 w3 ⟨rfl, hb3⟩
      have L3 := L2.step hb3 L2.lt
      clear hb3
      obtain ⟨_, _, c0, c1, s3⟩ := id L3
      clear L1 L2
      have hb3 : ∀ k, k < l2 → ∃ b off x, A2 = some ⟨b, off, none⟩ ∧ w3.cell? ⟨b, off + k, none⟩ = some (.int .u8 x) ∧ 0 ≤ x ∧ x ≤ 255 := fun k hk => by
        obtain ⟨b, off, x, e, hlt, h1, h2, h3⟩ := hby k hk
        exact ⟨b, off, x, e, (L3.below.cell (p := ⟨b, _, none⟩) hlt).trans h1, h2, h3⟩
      clear hby
      go_wp2_with fail
      go_loop [8, 9] (fun v t => ∃ (k : Nat) (o : Nat), k ≤ l2 ∧ (k = 0 ∧ o = 0 ∨ k = 1 ∧ o ≤ 255 ∨ k = 2 ∧ o ≤ 65535) ∧ v = .int .i64 (o : Nat) ∧ t = .int .i64 (k : Nat)) (fun _ t => 2 - (intOf t).toNat)
      case atStart => exact ⟨0, 0, by omega, by omega, rfl, rfl⟩
      case round =>
        obtain ⟨k, o, hk, ho, rfl, rfl⟩ := hrel
        by_cases hlt : k < l2 ∧ k < 2
        · obtain ⟨b, off, x, rfl, hx, hx0, hx1⟩ := hb3 k hlt.1
          obtain ⟨x, rfl⟩ : ∃ y : Nat, x = y := ⟨x.toNat, by omega⟩
          have h1 := hlt.1
          have h2 := hlt.2
          have hw1 : IntKind.i64.wrap ((o : Int) * 256) = ((o * 256 : Nat) : Int) := by rw [IntWalk.i64_in _ (by omega)]; omega
          have hw2 : IntKind.i64.wrap (((o * 256 : Nat) : Int) + (x : Nat)) = ((o * 256 + x : Nat) : Int) := by rw [IntWalk.i64_in _ (by omega)]; omega
          clear hlt
          go_wp2_with fail
          go_round
          case rel => exact ⟨k + 1, o * 256 + x, by omega, by omega, rfl, by go_num⟩
          case measure => simp [intOf]; omega
        · have hoo : o ≤ 65535 := by omega
          obtain ⟨P, hPd, hP, hP1, hP2⟩ : ∃ P : Nat, P = 2 ^ es.length ∧ wrap64 (2 ^ es.length) = (P : Int) ∧ 1 ≤ P ∧ P ≤ 512 := ⟨_, rfl, pow_wrap es.length hl9⟩
          have hoP := Nat.mod_lt o (show 0 < P from hP1)
          have hsP := state_of HNET.out (m := o % P) (hPd ▸ hoP)
          have hmod := tmod_nat o P
          clear hPd
          generalize o % P = q at *
          have hq : q < 512 := by omega
          have hPz : ¬ (P : Int) = 0 := by omega
          have hor := or_i64 m q hm hq
          have hand := and_i64 m q hm hq
          have h2 := two_ok HST.out hsP
          have hr2 := rank_two HST.out hsP
          rw [HR.out] at hr2
          have b1 := rank_bounds hsP
          have b2 := rank_bounds h2.1
          have b3 := rank_bounds h2.2
          obtain ⟨rq, hrq⟩ : ∃ x : Int, rankI n es (q : Nat) = x := ⟨_, rfl⟩
          obtain ⟨ro, hro⟩ : ∃ x : Int, rankI n es ((m ||| q : Nat) : Int) = x := ⟨_, rfl⟩
          obtain ⟨ra, hra⟩ : ∃ x : Int, rankI n es ((m &&& q : Nat) : Int) = x := ⟨_, rfl⟩
          rw [hrq, hro, hra] at hr2
          rw [hrq] at b1
          rw [hro] at b2
          rw [hra] at b3
          obtain ⟨i1, i2, i3, i4, i5⟩ := hr2
          have hrq := Lib.hid hrq
          have hro := Lib.hid hro
          have hra := Lib.hid hra
          have w5 : IntKind.i64.wrap (ro + ra) = ro + ra := IntWalk.i64_in _ (by omega)
          have w6 : IntKind.i64.wrap (r + rq) = r + rq := IntWalk.i64_in _ (by omega)
          have b30 := b3.1
          have hend : k = 2 ∧ (2 : Int) < (l2 : Int) ∨ k = l2 := by omega
          clear hsP h2 hoP hk hlt ho
          generalize m ||| q = mo at *
          generalize m &&& q = ma at *
          rcases hend with ⟨rfl, hkl⟩ | rfl
          · clear c0 c1
            have c0 := L3.c0
            have c1 := L3.c1
            go_wp2_with fail
            refine (rankOf_is _ _ _ _ _ _ L3.edges hle' rq hrq.out).mono ?_
            rintro e4 w4 ⟨rfl, hb4⟩
            have L4 := L3.step hb4 L3.lt
            clear hb4
            obtain ⟨_, _, c0, c1, s4⟩ := id L4
            go_wp2_with fail
            refine (rankOf_is _ _ _ _ _ _ L4.edges hle' ro hro.out).mono ?_
            rintro e5 w5 ⟨rfl, hb5⟩
            have L5 := L4.step hb5 L4.lt
            clear hb5
            obtain ⟨_, _, c0, c1, s5⟩ := id L5
            go_wp2_with fail
            refine (rankOf_is _ _ _ _ _ _ L5.edges hle' ra hra.out).mono ?_
            rintro e6 w6 ⟨rfl, hb6⟩
            have L6 := L5.step hb6 L5.lt
            clear hb6
            obtain ⟨_, _, c0, c1, s6⟩ := id L6
            go_wp2_with fail
            refine (thereOf_is _ _ _ _ _ _ L6.edges hle' t HT.out).mono ?_
            rintro e7 w7 ⟨rfl, hb7⟩
            have L7 := L6.step hb7 L6.lt
            clear hb7
            obtain ⟨_, _, c0, c1, s7⟩ := id L7
            go_wp2_with fail
            go_returns
            exact ⟨rfl, HB.out.trans (L7.below.mono s1)⟩
          · clear c0 c1
            have c0 := L3.c0
            have c1 := L3.c1
            go_wp2_with fail
            refine (rankOf_is _ _ _ _ _ _ L3.edges hle' rq hrq.out).mono ?_
            rintro e4 w4 ⟨rfl, hb4⟩
            have L4 := L3.step hb4 L3.lt
            clear hb4
            obtain ⟨_, _, c0, c1, s4⟩ := id L4
            go_wp2_with fail
            refine (rankOf_is _ _ _ _ _ _ L4.edges hle' ro hro.out).mono ?_
            rintro e5 w5 ⟨rfl, hb5⟩
            have L5 := L4.step hb5 L4.lt
            clear hb5
            obtain ⟨_, _, c0, c1, s5⟩ := id L5
            go_wp2_with fail
            refine (rankOf_is _ _ _ _ _ _ L5.edges hle' ra hra.out).mono ?_
            rintro e6 w6 ⟨rfl, hb6⟩
            have L6 := L5.step hb6 L5.lt
            clear hb6
            obtain ⟨_, _, c0, c1, s6⟩ := id L6
            go_wp2_with fail
            refine (thereOf_is _ _ _ _ _ _ L6.edges hle' t HT.out).mono ?_
            rintro e7 w7 ⟨rfl, hb7⟩
            have L7 := L6.step hb7 L6.lt
            clear hb7
            obtain ⟨_, _, c0, c1, s7⟩ := id L7
            go_wp2_with fail
            go_returns
            exact ⟨rfl, HB.out.trans (L7.below.mono s1)⟩
    · have HP : Hid (rankI n es s = -1) := by simp [Hid, rankI, hst]
      clear hst
      go_wp2_with fail
      refine (rankOf_is _ _ _ _ _ _ L1.edges hle' (-1) HP.out).mono ?_
      rintro e2 w2 ⟨rfl, hb2⟩
      have L2 := L1.step hb2 L1.lt
      clear hb2
      obtain ⟨_, _, c0, c1, s2⟩ := id L2
      go_wp2_with fail
      refine (specRankOf_is _ _ _ _ _ _ L2.edges hle' (-1) HP.out).mono ?_
      rintro e3 w3 ⟨rfl, hb3⟩
      have L3 := L2.step hb3 L2.lt
      clear hb3
      obtain ⟨_, _, c0, c1, s3⟩ := id L3
      go_wp2_with fail
      refine (alive_any _).mono ?_
      rintro e4 w4 ⟨rfl, hb4⟩
      have L4 := L3.step hb4 L3.lt
      clear hb4
      obtain ⟨_, _, c0, c1, s4⟩ := id L4
      go_wp2_with fail
      go_returns
      exact ⟨rfl, HB.out.trans (L4.below.mono s1)⟩

namespace fnRankOf
open Go.ChangeShapes Go.WideShapes Go.ChangeAt Go.RowKit Go.Deep Go.Joins
set_option linter.unusedVariables false
set_option maxRecDepth 100000 in
theorem lifted (os : Os) (started : os.Started) (H : Type) (enc : TypeId × Value → H) :
    ReturnsInHanded {} Try.checked os 11 .any (Rows.fnRankOfSpec.pre6 enc Try.prog Try.f11 Rows.fnRankOfRow.domain false) (Rows.fnRankOfSpec.post enc Try.prog Try.f11 false true false false) := by
  refine returnsInHanded_of_change (C := Try.checked) own started (by kernel_rfl) Try.func11
    (ChangeSpec.witness6 (enc := enc) (C := Try.checked) false ⟨#[], #[.slice none 0 0, .slice none 0 0], []⟩ 8 (by kernel_rfl) (by kernel_rfl) (by kernel_rfl) (by kernel_rfl)) ?_
  intro W base args ds gs before hval0 hW hcnd _
  have hval : ∀ (j : Nat) t v, Try.f11.params[j]? = some t → args[j]? = some v → Value.okWide Try.prog W .any base t v := hval0
  have hW' := hW
  obtain ⟨p, q, hA0, hV, rfl, hfz, hnd⟩ := hW
  have hA : DataW.TrodAll enc Try.prog W 0 (fun _ => true) true Try.f11.params.toList args.toList ds p := hA0
  rw [Try.params11] at hA hval
  obtain ⟨v0, vs0, d0, ds0, p0, q0, hargs, rfl, rfl, h0, r0⟩ := trodAll_cons hA
  obtain ⟨v1, vs1, d1, ds1, p1, q1, rfl, rfl, rfl, h1, r1⟩ := trodAll_cons r0
  obtain ⟨rfl, rfl, rfl⟩ := trodAll_nil r1
  obtain rfl : args = #[v0, v1] := by cases args; simp_all
  obtain ⟨rfl, rfl⟩ := trodVars_none hV
  have k0 := h0
  have lt0 : ∀ x ∈ p0, x.block < W.heap.size := by obtain ⟨m, hm⟩ := k0; exact DataW.trod_lt m _ _ _ hm
  obtain ⟨A0, c0, bs0, rfl, hb0, hl0⟩ := open_bytes (hval 0 22 v0 rfl rfl) h0
  have k1 := h1
  have lt1 : ∀ x ∈ p1, x.block < W.heap.size := by obtain ⟨m, hm⟩ := k1; exact DataW.trod_lt m _ _ _ hm
  obtain ⟨A1, c1, bs1, rfl, hb1, hl1⟩ := open_bytes (hval 1 22 v1 rfl rfl) h1
  clear hA0 hval0
  refine (rankOf_law A0 c0 bs0 A1 c1 bs1 W hb0 hl0 hb1 hl1).mono fun e W' ⟨he, bel⟩ => ?_
  subst he
  exact ⟨_, rfl, _, _, _, [], _, [], hW', trodAll_mk1 (shut_bool Try.underlying4 _), (trodAll_cons_mk (Below.trod laidOut (by kernel_rfl) (of_decide_eq_true (by kernel_rfl)) k0 bel lt0) (trodAll_cons_mk (Below.trod laidOut (by kernel_rfl) (of_decide_eq_true (by kernel_rfl)) k1 bel lt1) trodAll_mk0)), rfl, bel.frame _, fun h => by cases h⟩

theorem holds : Rows.FnRankOfSaid :=
  OpenClaim.holds_of_wide 11 Try.f11 rfl rfl rfl rfl rfl rfl rfl ⟨rfl, rfl, rfl, rfl, rfl⟩ rfl rfl rfl rfl rfl (by kernel_rfl) Try.func11 (by kernel_rfl)
    (of_decide_eq_true (by kernel_rfl)) (by unfold Func.isWrapper; first | (rw [if_pos (by decide +kernel)]; kernel_rfl) | (rw [if_neg (by decide +kernel)]; exact ⟨rfl, rfl⟩))
    (fun os started H enc _ => lifted os started H enc)
end fnRankOf
end Go.Proofs.Ytikmkdonbfngeab
