/- The law FnWeightOf holds of every code: the weight of an edge is 0 exactly if no path has the edge; and at most all states of the others. -/
import Derived.Test.YtlcgbmeneajfoacBytes
import Derived.Test.YtlcgbmeneajfoacDraw6
import Derived.Test.YtlcgbmeneajfoacSpec6
import Derived.Test.YtlcgbmeneajfoacImpl6
import Derived.Test.YtlcgbmeneajfoacImpl4
import Derived.Test.YtlcgbmeneajfoacObj
namespace Go.Proofs.Ytlcgbmeneajfoac
open Go.RowKit
set_option maxRecDepth 100000

theorem bit_at (x k : Nat) : ((x : Int) / 2 ^ k).tmod 2 = if x.testBit k = true then 1 else 0 := by
  rw [tmod_of]
  have h := bit_of x k
  generalize x / 2 ^ k = y at *
  by_cases hb : x.testBit k = true
  · rw [if_pos hb]; rw [hb] at h; have := of_decide_eq_true h.symm; omega
  · rw [if_neg hb]; have : ¬ y % 2 = 1 := fun e => hb (by rw [h]; exact decide_eq_true e)
    omega

set_option maxHeartbeats 4000000 in
theorem weightOf_law (A : Option Addr) (cap l : Nat) (w : World) (hb : BytesIn w w.heap.size A l) (hc : l ≤ cap) :
    Calls Try.prog 11 #[.slice A l cap] w fun e w' => e = .returned (.bool true) ∧ Below w.heap.size w w' := by
  by_cases hbig : 1048576 < l
  · go_enter Try.func11, Try.ntmps11
    go_wp2
    go_returns
    exact ⟨rfl, Below.refl _ _⟩
  · have hl : l ≤ 1048576 := by omega
    clear hbig
    go_enter Try.func11, Try.ntmps11
    go_wp2_with fail
    refine (drawWeightOf_any _ _ _ _ hb hl hc).mono ?_
    rintro e1 w1 ⟨n, A1, c, es, a, b, s, rfl, own, n1, n7, hle, a1, a2, b1, b2, t1, t2, hb1⟩
    have L1 := ArgNet.start (cap := c) (n := n) 30 own.edges
    have HB := Lib.hid hb1
    have hle' : es.length ≤ 1048576 := by omega
    have s1 := hb1.size
    clear own hb hb1
    have HI : Hid (∀ u, EdgesIn u u.heap.size A1 es → Calls Try.prog 40 #[.agg #[.int .i64 n, .slice A1 es.length c], .int .i64 a, .int .i64 b, .int .i64 s] u fun e w' => e = .returned (.int .i64 (wtI n es a b s)) ∧ Below u.heap.size u w') := fun u h => weightOf_any n a b s A1 c es u h hle'
    have HS : Hid (∀ u, EdgesIn u u.heap.size A1 es → Calls Try.prog 41 #[.agg #[.int .i64 n, .slice A1 es.length c], .int .i64 a, .int .i64 b, .int .i64 s] u fun e w' => e = .returned (.int .i64 (wtI n es a b s)) ∧ Below u.heap.size u w') := fun u h => specWeightOf_any n a b s A1 c es u h hle'
    by_cases hok : pivOkB n es a b s = true
    · obtain ⟨v, hv, hv1, hv2⟩ := wt_law hok
      rw [hv] at HI HS
      obtain ⟨hn, h9, -, -, -, hat, hse⟩ := piv_parts hok
      obtain ⟨k, rfl⟩ : ∃ k : Nat, s = k := ⟨s.toNat, by omega⟩
      rw [show ((k : Nat) : Int).toNat = k from rfl] at hv2 hat
      obtain ⟨z, hz⟩ : ∃ z, es.length - 1 = z := ⟨_, rfl⟩
      have wl : IntKind.i64.wrap ((es.length : Int) - 1) = ((z : Nat) : Int) := by rw [IntWalk.i64_in _ (by omega)]; omega
      obtain ⟨P, hPd, p1, p2, hp3, hp4⟩ := pow_named (show z ≤ 9 by omega)
      rw [hz, hPd] at hv1
      have hP : Hid (∀ u, EdgesIn u u.heap.size A1 es → Calls Try.prog 38 #[.agg #[.int .i64 n, .slice A1 es.length c], .int .i64 a, .int .i64 b] u (GotInts u (natI (pathsN n es a b)))) := fun u h => pathsOf_any n a b A1 c es u h hle'
      have HX : Hid (∀ j, j < (pathsN n es a b).length → (pathsN n es a b).getD j 0 < 512) := fun j hj => pathsN_lt (getD_in hj)
      have HLX := pathsN_len n es a b
      generalize pathsN n es a b = xs at *
      obtain ⟨m, hm⟩ : ∃ m, xs.length = m := ⟨_, rfl⟩
      rw [hm] at hv2 HX HLX
      have HM := Lib.hid hm
      have HV2 := Lib.hid hv2
      have hk9 : k < 9 := by omega
      have hz8 : z ≤ 8 := by omega
      clear hok hv hv2 hn hat hse hz hPd hm h9
      have c0 := L1.c0
      have c1 := L1.c1
      go_wp2_with fail
      refine (HI.out _ L1.edges).mono ?_
      rintro e2 w2 ⟨rfl, hb2⟩
      have L2 := L1.step hb2 L1.lt
      clear hb2 L1 c0 c1
      have c0 := L2.c0
      have c1 := L2.c1
      go_wp2_with fail
      refine (HS.out _ L2.edges).mono ?_
      rintro e3 w3 ⟨rfl, hb3⟩
      have L3 := L2.step hb3 L2.lt
      clear hb3 L2 c0 c1
      have c0 := L3.c0
      have c1 := L3.c1
      have d0 : ¬ (v : Int) < 0 := by omega
      go_wp2_with fail
      refine (hP.out _ L3.edges).mono ?_
      intro e4 w4 hgot
      obtain ⟨A4, c4, rfl, own4, hc4, hb4⟩ := natI_got hgot
      rw [HM.out] at own4 ⊢
      have L4 := L3.step hb4 L3.lt
      have hx4 := own4.ints
      clear hb4 L3 c0 c1 own4 hc4 hgot
      go_wp2_with fail
      go_loopw [8, 10] (fun v t wr => ∃ j : Nat, j ≤ m ∧ v = .bool (bitTo xs k j) ∧ t = .int .i64 (j : Nat) ∧ w4 = wr) (fun _ t _ => m - (intOf t).toNat)
      case atStart => exact ⟨0, by omega, rfl, rfl, rfl⟩
      case round =>
        obtain ⟨j, hj, rfl, rfl, rfl⟩ := hrel
        by_cases hlt : j < m
        · have j1 : j < xs.length := by have := HM.out; omega
          obtain ⟨b0, off, rfl, hbb, gk⟩ := hx4 j _ (natI_at j1)
          have h512 := HX.out j hlt
          have HN : Hid (bitTo xs k (j + 1) = (bitTo xs k j || (xs.getD j 0).testBit k)) := rfl
          have hbv := bit_at (xs.getD j 0) k
          generalize xs.getD j 0 = x at *
          have ij : (j : Int) < (m : Int) := by omega
          cases hv : bitTo xs k j with
          | true =>
            rw [hv] at HN
            have HV : Hid (bitTo xs k (j + 1) = true) := by rw [Hid, HN.out]; rfl
            clear HN hv hbv
            go_wp2_with fail
            go_roundw
            case rel => exact ⟨j + 1, by omega, by rw [HV.out], by go_num, by first | rfl | trivial⟩
            case measure => simp [intOf]; omega
          | false =>
            rw [hv] at HN
            cases hx : x.testBit k with
            | true =>
              rw [hx] at HN hbv
              have HV : Hid (bitTo xs k (j + 1) = true) := by rw [Hid, HN.out]; rfl
              have hz1 : ((x : Int) / 2 ^ k).tmod 2 = 1 := by simpa using hbv
              clear HN hv hbv hx
              go_wp2_with fail
              go_roundw
              case rel => exact ⟨j + 1, by omega, by rw [HV.out], by go_num, by first | rfl | trivial⟩
              case measure => simp [intOf]; omega
            | false =>
              rw [hx] at HN hbv
              have HV : Hid (bitTo xs k (j + 1) = false) := by rw [Hid, HN.out]; rfl
              have hz1 : ((x : Int) / 2 ^ k).tmod 2 = 0 := by simpa using hbv
              clear HN hv hbv hx
              go_wp2_with fail
              go_roundw
              case rel => exact ⟨j + 1, by omega, by rw [HV.out], by go_num, by first | rfl | trivial⟩
              case measure => simp [intOf]; omega
        · obtain rfl : j = m := by omega
          have c0 := L4.c0
          have c1 := L4.c1
          have hvp : (v : Int) ≤ (P : Int) := Int.ofNat_le.2 hv1
          cases hB : bitTo xs k j with
          | true =>
            have h0 : 0 < v := by have := HV2.out; rw [hB] at this; simpa using this
            have h0' : (0 : Int) < (v : Int) := by omega
            have dz : decide ((0 : Int) < (v : Int)) = true := decide_eq_true h0'
            clear hB
            go_wp2_with fail
            go_returns
            exact ⟨rfl, HB.out.trans (L4.below.mono s1)⟩
          | false =>
            have h0 : v = 0 := by have := HV2.out; rw [hB] at this; simp at this; exact this
            clear hB
            subst h0
            go_wp2_with fail
            go_returns
            exact ⟨rfl, HB.out.trans (L4.below.mono s1)⟩
    · rw [wt_not hok] at HI HS
      clear hok
      have c0 := L1.c0
      have c1 := L1.c1
      go_wp2_with fail
      refine (HI.out _ L1.edges).mono ?_
      rintro e2 w2 ⟨rfl, hb2⟩
      have L2 := L1.step hb2 L1.lt
      clear hb2 L1 c0 c1
      have c0 := L2.c0
      have c1 := L2.c1
      go_wp2_with fail
      refine (HS.out _ L2.edges).mono ?_
      rintro e3 w3 ⟨rfl, hb3⟩
      have L3 := L2.step hb3 L2.lt
      clear hb3 L2 c0 c1
      go_wp2_with fail
      refine (alive_any _).mono ?_
      rintro e4 w4 ⟨rfl, hb4⟩
      have L4 := L3.step hb4 L3.lt
      go_wp2_with fail
      go_returns
      exact ⟨rfl, HB.out.trans (L4.below.mono s1)⟩

namespace fnWeightOf
open Go.ChangeShapes Go.WideShapes Go.ChangeAt Go.RowKit Go.Deep Go.Joins
set_option linter.unusedVariables false
set_option maxRecDepth 100000 in
theorem lifted (os : Os) (started : os.Started) (H : Type) (enc : TypeId × Value → H) :
    ReturnsInHanded {} Try.checked os 11 .any (Rows.fnWeightOfSpec.pre6 enc Try.prog Try.f11 Rows.fnWeightOfRow.domain false) (Rows.fnWeightOfSpec.post enc Try.prog Try.f11 false true false false) := by
  refine returnsInHanded_of_change (C := Try.checked) own started (by kernel_rfl) Try.func11
    (ChangeSpec.witness6 (enc := enc) (C := Try.checked) false ⟨#[], #[.slice none 0 0], []⟩ 8 (by kernel_rfl) (by kernel_rfl) (by kernel_rfl) (by kernel_rfl)) ?_
  intro W base args ds gs before hval0 hW hcnd _
  have hval : ∀ (j : Nat) t v, Try.f11.params[j]? = some t → args[j]? = some v → Value.okWide Try.prog W .any base t v := hval0
  have hW' := hW
  obtain ⟨p, q, hA0, hV, rfl, hfz, hnd⟩ := hW
  have hA : DataW.TrodAll enc Try.prog W 0 (fun _ => true) true Try.f11.params.toList args.toList ds p := hA0
  rw [Try.params11] at hA hval
  obtain ⟨v0, vs0, d0, ds0, p0, q0, hargs, rfl, rfl, h0, r0⟩ := trodAll_cons hA
  obtain ⟨rfl, rfl, rfl⟩ := trodAll_nil r0
  obtain rfl : args = #[v0] := by cases args; simp_all
  obtain ⟨rfl, rfl⟩ := trodVars_none hV
  have k0 := h0
  have lt0 : ∀ x ∈ p0, x.block < W.heap.size := by obtain ⟨m, hm⟩ := k0; exact DataW.trod_lt m _ _ _ hm
  obtain ⟨A0, c0, bs0, rfl, hb0, hl0⟩ := open_bytes (hval 0 37 v0 rfl rfl) h0
  clear hA0 hval0
  refine (weightOf_law A0 c0 bs0 W hb0 hl0).mono fun e W' ⟨he, bel⟩ => ?_
  subst he
  exact ⟨_, rfl, _, _, _, [], _, [], hW', trodAll_mk1 (shut_bool Try.underlying4 _), (trodAll_cons_mk (Below.trod laidOut (by kernel_rfl) (of_decide_eq_true (by kernel_rfl)) k0 bel lt0) trodAll_mk0), rfl, bel.frame _, fun h => by cases h⟩

theorem holds : Rows.FnWeightOfSaid :=
  OpenClaim.holds_of_wide 11 Try.f11 rfl rfl rfl rfl rfl rfl rfl ⟨rfl, rfl, rfl, rfl, rfl⟩ rfl rfl rfl rfl rfl (by kernel_rfl) Try.func11 (by kernel_rfl)
    (of_decide_eq_true (by kernel_rfl)) (by unfold Func.isWrapper; first | (rw [if_pos (by decide +kernel)]; kernel_rfl) | (rw [if_neg (by decide +kernel)]; exact ⟨rfl, rfl⟩))
    (fun os started H enc _ => lifted os started H enc)
end fnWeightOf
end Go.Proofs.Ytlcgbmeneajfoac
