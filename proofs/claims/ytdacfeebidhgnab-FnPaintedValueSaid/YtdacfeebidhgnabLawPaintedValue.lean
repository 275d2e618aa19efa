/- The law FnPaintedValue holds of every code: the value at 1 less the colours and 0, times the colours as often as there are pieces, is, with a sign, how many paintings there are. -/
import Derived.Test.YtdacfeebidhgnabBytes
import Derived.Test.YtdacfeebidhgnabVals
import Derived.Test.YtdacfeebidhgnabDraw10
import Derived.Test.YtdacfeebidhgnabImpl10a
import Derived.Test.YtdacfeebidhgnabImpl11f
namespace Go.Proofs.Ytdacfeebidhgnab
open Go.RowKit
set_option maxRecDepth 100000

theorem paintedValue_eq {n : Int} {es : List (Int × Int)} {x : Int} (hn : netOkB n es = true) (x1 : 1 ≤ x) (x4 : x ≤ 4) : ∃ p r : Nat, rkN es = r ∧ piecesI n es ((2 ^ es.length - 1 : Nat) : Int) = (p : Nat) ∧ p ≤ 6 ∧ paintI n es x = sgn r (valI n es (1 - x) 0 * x ^ p) ∧ roadOkB n es (1 - x) 0 = true := by
  have h1 := netOkB_iff.1 hn
  have hok : roadOkB n es (1 - x) 0 = true := by
    unfold roadOkB
    rw [hn, inFour_iff.2 (show (-4 : Int) ≤ 0 ∧ (0 : Int) ≤ 4 by omega), inFour_iff.2 (show -4 ≤ 1 - x ∧ 1 - x ≤ 4 by omega)]; rfl
  have hc : colOkB n es x = true := by simp only [colOkB, hn, Bool.true_and, Bool.and_eq_true, decide_eq_true_eq]; omega
  have hs : stateOkB n es ((2 ^ es.length - 1 : Nat) : Int) = true := state_of hn (vall_lt _)
  have hr := rankI_top hn
  unfold rankI at hr
  rw [if_pos hs] at hr
  refine ⟨piecesB n es ((2 ^ es.length - 1 : Nat) : Int), rkN es, rfl, piecesI_cast hs, by omega, ?_, hok⟩
  have hp : n.toNat - rkN es = piecesB n es ((2 ^ es.length - 1 : Nat) : Int) := by omega
  have hle : rkA (endsL es) (fun x => x) ≤ n.toNat := by show rkN es ≤ _; omega
  have hv := val_paint (c := x) hle
  have ht := paintN_tut (c := x.toNat) (endsL_ok hn)
  rw [show ((x.toNat : Nat) : Int) = x by omega, hv] at ht
  rw [paintI_ok hc, ht]
  unfold valI
  rw [if_pos hok, Int.mul_comm, ← hp]; rfl
theorem valI_bound {n : Int} {es : List (Int × Int)} {x y : Int} (h : roadOkB n es x y = true) : -262144 ≤ valI n es x y ∧ valI n es x y ≤ 262144 := by
  have h2 : netOkB n es = true ∧ inFour x = true ∧ inFour y = true := by simpa [roadOkB] using h
  unfold valI
  rw [if_pos h, ← edge_val]
  exact edgeV_small (inFour_iff.1 h2.2.1) (inFour_iff.1 h2.2.2) (by rw [endsL_length]; exact (netOkB_iff.1 h2.1).2.1) _
theorem pv_bound {V x : Int} (hV : -262144 ≤ V ∧ V ≤ 262144) (x1 : 1 ≤ x) (x4 : x ≤ 4) : ∀ k : Nat, -((262144 * 4 ^ k : Nat) : Int) ≤ V * x ^ k ∧ V * x ^ k ≤ ((262144 * 4 ^ k : Nat) : Int)
  | 0 => by simp; omega
  | k + 1 => by
    have h := pv_bound hV x1 x4 k
    rw [Int.pow_succ, ← Int.mul_assoc, Nat.pow_succ, ← Nat.mul_assoc]
    generalize V * x ^ k = y at *
    generalize 262144 * 4 ^ k = M at *
    rcases (show x = 1 ∨ x = 2 ∨ x = 3 ∨ x = 4 by omega) with rfl | rfl | rfl | rfl <;> omega
theorem pv_small {V x : Int} (hV : -262144 ≤ V ∧ V ≤ 262144) (x1 : 1 ≤ x) (x4 : x ≤ 4) {k : Nat} (hk : k ≤ 6) : -1073741824 ≤ V * x ^ k ∧ V * x ^ k ≤ 1073741824 := by
  have h := pv_bound hV x1 x4 k
  have h2 : 4 ^ k ≤ 4 ^ 6 := Nat.pow_le_pow_right (by omega) hk
  omega
theorem pv_wrap {V x Z Y : Int} {k : Nat} (hZ : Z = V * x ^ k) (hY : Y = V * x ^ (k + 1)) (hb : -1073741824 ≤ Y ∧ Y ≤ 1073741824) : IntKind.i64.wrap (Z * x) = Y ∧ wrap64 (Z * x) = Y := by
  have e : Z * x = Y := by rw [hZ, hY, Int.pow_succ, Int.mul_assoc]
  rw [e]; exact ⟨IntWalk.i64_in _ (by omega), by unfold wrap64; omega⟩

set_option maxHeartbeats 8000000 in
theorem paintedValue_law (A : Option Addr) (cap l : Nat) (w : World) (hb : BytesIn w w.heap.size A l) (hc : l ≤ cap) :
    Calls Try.prog 7 #[.slice A l cap] w fun e w' => e = .returned (.bool true) ∧ Below w.heap.size w w' := by
  by_cases hbig : 1048576 < l
  · go_enter Try.func7, Try.ntmps7
    go_wp2
    go_returns
    exact ⟨rfl, Below.refl _ _⟩
  · have hl : l ≤ 1048576 := by omega
    clear hbig
    go_enter Try.func7, Try.ntmps7
    go_wp2_with fail
    refine (drawCountPainted_any _ _ _ _ hb hl hc).mono ?_
    rintro e1 w1 ⟨n, A1, c, es, x, rfl, ed, n1, n7, hle, hcap, m0, m1, hb1⟩
    have L1 := ArgNet.start (cap := c) (n := n) 25 (ed.edges (Nat.le_refl _))
    have HB := Lib.hid hb1
    have hle' : es.length ≤ 1048576 := by omega
    have s1 := Lib.hid hb1.size
    clear ed hb hb1
    have HN : Hid (∀ u, EdgesIn u u.heap.size A1 es → Calls Try.prog 34 #[.agg #[.int .i64 n, .slice A1 es.length c]] u fun e w' => e = .returned (.bool (netOkB n es)) ∧ Below u.heap.size u w') := fun u h => specNetOk_any n A1 c es u h hle'
    have c0 := L1.c0
    have c1 := L1.c1
    cases hn : netOkB n es with
    | false =>
      rw [hn] at HN
      clear hn
      go_wp2_with fail
      refine (HN.out _ L1.edges).mono ?_
      rintro e2 w2 ⟨rfl, hb2⟩
      have L2 := L1.step hb2 L1.lt
      clear hb2 L1 c0 c1
      have c0 := L2.c0
      have c1 := L2.c1
      go_wp2_with fail
      refine (alive_any _).mono ?_
      rintro e3 w3 ⟨rfl, hb3⟩
      have L3 := L2.step hb3 L2.lt
      go_wp2_with fail
      go_returns
      exact ⟨by first | rfl | simp, HB.out.trans (L3.below.mono s1.out)⟩
    | true =>
      rw [hn] at HN
      by_cases h1 : x < 1
      · clear hn
        go_wp2_with fail
        refine (HN.out _ L1.edges).mono ?_
        rintro e2 w2 ⟨rfl, hb2⟩
        have L2 := L1.step hb2 L1.lt
        clear hb2 L1 c0 c1
        have c0 := L2.c0
        have c1 := L2.c1
        go_wp2_with fail
        refine (alive_any _).mono ?_
        rintro e3 w3 ⟨rfl, hb3⟩
        have L3 := L2.step hb3 L2.lt
        go_wp2_with fail
        go_returns
        exact ⟨by first | rfl | simp, HB.out.trans (L3.below.mono s1.out)⟩
      · by_cases h4 : 4 < x
        · clear hn
          go_wp2_with fail
          refine (HN.out _ L1.edges).mono ?_
          rintro e2 w2 ⟨rfl, hb2⟩
          have L2 := L1.step hb2 L1.lt
          clear hb2 L1 c0 c1
          have c0 := L2.c0
          have c1 := L2.c1
          go_wp2_with fail
          refine (alive_any _).mono ?_
          rintro e3 w3 ⟨rfl, hb3⟩
          have L3 := L2.step hb3 L2.lt
          go_wp2_with fail
          go_returns
          exact ⟨by first | rfl | simp, HB.out.trans (L3.below.mono s1.out)⟩
        · obtain ⟨p, r, hrr, hpp, p6, hpv, hro⟩ := paintedValue_eq (x := x) hn (by omega) (by omega)
          have hvb := valI_bound hro
          have h9 := (netOkB_iff.1 hn).2.1
          have HE : Hid (∀ u, EdgesIn u u.heap.size A1 es → Calls Try.prog 20 #[.agg #[.int .i64 n, .slice A1 es.length c], .int .i64 (1 - x), .int .i64 0] u fun e w' => e = .returned (.tuple #[.int .i64 (valI n es (1 - x) 0), .bool (roadOkB n es (1 - x) 0)]) ∧ Below u.heap.size u w') := fun u h => byEdges_any n (1 - x) 0 A1 c es u h hle' hcap
          have HF : Hid (∀ u, EdgesIn u u.heap.size A1 es → Calls Try.prog 36 #[.agg #[.int .i64 n, .slice A1 es.length c], .int .i64 x] u fun e w' => e = .returned (.int .i64 (paintI n es x)) ∧ Below u.heap.size u w') := fun u h => countPainted_any n x A1 c es u h hle'
          obtain ⟨P, hP, p1, p2, hp3, hp4⟩ := pow_named h9
          have HP3 := Lib.hid hp3
          have HP4 := Lib.hid hp4
          clear hp3 hp4
          obtain ⟨Q, hQ⟩ : ∃ Q, P - 1 = Q := ⟨_, rfl⟩
          have wq : IntKind.i64.wrap ((P : Int) - 1) = (Q : Int) := by clear hP HP3 HP4; rw [IntWalk.i64_in _ (by omega)]; omega
          have HR : Hid (∀ u, EdgesIn u u.heap.size A1 es → Calls Try.prog 35 #[.agg #[.int .i64 n, .slice A1 es.length c], .int .i64 (Q : Nat)] u fun e w' => e = .returned (.int .i64 (r : Nat)) ∧ Below u.heap.size u w') := fun u h => by
            have := rankOf_any n ((2 ^ es.length - 1 : Nat) : Int) A1 c es u h hle'
            rw [rankI_top hn, hrr, hP, hQ] at this
            exact this
          have HPC : Hid (∀ u, EdgesIn u u.heap.size A1 es → Calls Try.prog 32 #[.agg #[.int .i64 n, .slice A1 es.length c], .int .i64 (Q : Nat)] u fun e w' => e = .returned (.int .i64 (p : Nat)) ∧ Below u.heap.size u w') := fun u h => by
            have := piecesIn_any n ((2 ^ es.length - 1 : Nat) : Int) A1 c es u h hle'
            rw [hpp, hP, hQ] at this
            exact this
          rw [hro] at HE
          rw [hpv] at HF
          have HSM : Hid (∀ k : Nat, k ≤ 6 → -1073741824 ≤ valI n es (1 - x) 0 * x ^ k ∧ valI n es (1 - x) 0 * x ^ k ≤ 1073741824) := fun k hk => pv_small hvb (by omega) (by omega) hk
          have HPW : Hid (∀ (k : Nat) (Z Y : Int), Z = valI n es (1 - x) 0 * x ^ k → Y = valI n es (1 - x) 0 * x ^ (k + 1) → -1073741824 ≤ Y ∧ Y ≤ 1073741824 → IntKind.i64.wrap (Z * x) = Y ∧ wrap64 (Z * x) = Y) := fun k Z Y h1 h2 h3 => pv_wrap h1 h2 h3
          have hz : valI n es (1 - x) 0 = valI n es (1 - x) 0 * x ^ 0 := by simp
          have wx : IntKind.i64.wrap (1 - x) = 1 - x := IntWalk.i64_in _ (by omega)
          have htm := mod_nat2 r
          have hx1 : 1 ≤ x := by omega
          have hx4 : x ≤ 4 := by omega
          have HLE := Lib.hid hle'
          have HCP := Lib.hid hcap
          have h9i : ¬ (9 : Int) < es.length := by omega
          clear hn hP hQ p1 p2 hrr hpp hpv hro hvb hle hle' hcap h9 m0 m1 n1 n7
          rw [hz] at HE
          clear hz
          generalize valI n es (1 - x) 0 = V at *
          have hp3 := HP3.out
          have hp4 := HP4.out
          clear HP3 HP4
          go_wp2_with fail
          refine (HN.out _ L1.edges).mono ?_
          rintro e2 w2 ⟨rfl, hb2⟩
          have L2 := L1.step hb2 L1.lt
          clear hb2 L1 c0 c1 HN
          have c0 := L2.c0
          have c1 := L2.c1
          go_wp2_with fail
          refine (HE.out _ L2.edges).mono ?_
          rintro e3 w3 ⟨rfl, hb3⟩
          have L3 := L2.step hb3 L2.lt
          clear hb3 L2 c0 c1 HE hp3 hp4
          have c0 := L3.c0
          have c1 := L3.c1
          go_wp2_with fail
          go_loopw [6, 8] (fun s t wr => ∃ k : Nat, k ≤ p ∧ t = .int .i64 (k : Nat) ∧ s = .int .i64 (V * x ^ k) ∧ ArgNet w1 wr n A1 c es) (fun _ t _ => p - (intOf t).toNat)
          case atStart => exact ⟨0, by omega, by first | rfl | simp, by first | rfl | simp, L3⟩
          case round =>
            clear L3 c0 c1
            obtain ⟨k, hk, rfl, rfl, L⟩ := hrel
            have c0 := L.c0
            have c1 := L.c1
            have z0 := HSM.out k (by omega)
            by_cases hlt : k < p
            · have z1 := HSM.out (k + 1) (by omega)
              obtain ⟨Z, hZ⟩ : ∃ Z, Z = V * x ^ k := ⟨_, rfl⟩
              obtain ⟨Y, hY⟩ : ∃ Y, Y = V * x ^ (k + 1) := ⟨_, rfl⟩
              rw [← hY] at z1
              obtain ⟨wz1, wz2⟩ := HPW.out k Z Y hZ hY z1
              rw [← hZ] at z0 ⊢
              have HY := Lib.hid hY
              have ik : (k : Int) < (p : Int) := by omega
              have ik6 : (k : Int) < 6 := by omega
              clear hZ hY
              go_wp2_with fail
              refine (HPC.out _ L.edges).mono ?_
              rintro e4 w4 ⟨rfl, hb4⟩
              have M := L.step hb4 L.lt
              clear hb4 L c0 c1
              go_wp2_with fail
              go_roundw
              case rel => exact ⟨k + 1, by omega, by go_num, by rw [← HY.out], M⟩
              case measure => simp [intOf]; omega
            · obtain rfl : k = p := by omega
              generalize V * x ^ k = Z at *
              have ik : ¬ (k : Int) < (k : Int) := by omega
              by_cases hodd : r % 2 = 1
              · rw [sgn_odd hodd] at HF
                rw [hodd] at htm
                obtain ⟨wn1, wn2⟩ : IntKind.i64.wrap (-Z) = -Z ∧ wrap64 (-Z) = -Z := ⟨IntWalk.i64_in _ (by omega), by unfold wrap64; omega⟩
                go_wp2_with fail
                refine (HPC.out _ L.edges).mono ?_
                rintro e4 w4 ⟨rfl, hb4⟩
                replace L := L.step hb4 L.lt
                clear hb4 c0 c1
                have c0 := L.c0
                have c1 := L.c1
                go_wp2_with fail
                refine (HR.out _ L.edges).mono ?_
                rintro e5 w5 ⟨rfl, hb5⟩
                have M5 := L.step hb5 L.lt
                clear hb5 L c0 c1
                have c0 := M5.c0
                have c1 := M5.c1
                go_wp2_with fail
                refine (HF.out _ M5.edges).mono ?_
                rintro e6 w6 ⟨rfl, hb6⟩
                have M6 := M5.step hb6 M5.lt
                go_wp2_with fail
                go_returns
                exact ⟨by first | rfl | simp, HB.out.trans (M6.below.mono s1.out)⟩
              · rw [sgn_even hodd] at HF
                rw [show r % 2 = 0 by omega] at htm
                go_wp2_with fail
                refine (HPC.out _ L.edges).mono ?_
                rintro e4 w4 ⟨rfl, hb4⟩
                replace L := L.step hb4 L.lt
                clear hb4 c0 c1
                have c0 := L.c0
                have c1 := L.c1
                go_wp2_with fail
                refine (HR.out _ L.edges).mono ?_
                rintro e5 w5 ⟨rfl, hb5⟩
                have M5 := L.step hb5 L.lt
                clear hb5 L c0 c1
                have c0 := M5.c0
                have c1 := M5.c1
                go_wp2_with fail
                refine (HF.out _ M5.edges).mono ?_
                rintro e6 w6 ⟨rfl, hb6⟩
                have M6 := M5.step hb6 M5.lt
                go_wp2_with fail
                go_returns
                exact ⟨by first | rfl | simp, HB.out.trans (M6.below.mono s1.out)⟩

namespace fnPaintedValue
open Go.ChangeShapes Go.WideShapes Go.ChangeAt Go.RowKit Go.Deep Go.Joins
set_option linter.unusedVariables false
set_option maxRecDepth 100000 in
theorem lifted (os : Os) (started : os.Started) (H : Type) (enc : TypeId × Value → H) :
    ReturnsInHanded {} Try.checked os 7 .any (Rows.fnPaintedValueSpec.pre6 enc Try.prog Try.f7 Rows.fnPaintedValueRow.domain false) (Rows.fnPaintedValueSpec.post enc Try.prog Try.f7 false true false false) := by
  refine returnsInHanded_of_change (C := Try.checked) own started (by kernel_rfl) Try.func7
    (ChangeSpec.witness6 (enc := enc) (C := Try.checked) false ⟨#[], #[.slice none 0 0], []⟩ 8 (by kernel_rfl) (by kernel_rfl) (by kernel_rfl) (by kernel_rfl)) ?_
  intro W base args ds gs before hval0 hW hcnd _
  have hval : ∀ (j : Nat) t v, Try.f7.params[j]? = some t → args[j]? = some v → Value.okWide Try.prog W .any base t v := hval0
  have hW' := hW
  obtain ⟨p, q, hA0, hV, rfl, hfz, hnd⟩ := hW
  have hA : DataW.TrodAll enc Try.prog W 0 (fun _ => true) true Try.f7.params.toList args.toList ds p := hA0
  rw [Try.params7] at hA hval
  obtain ⟨v0, vs0, d0, ds0, p0, q0, hargs, rfl, rfl, h0, r0⟩ := trodAll_cons hA
  obtain ⟨rfl, rfl, rfl⟩ := trodAll_nil r0
  obtain rfl : args = #[v0] := by cases args; simp_all
  obtain ⟨rfl, rfl⟩ := trodVars_none hV
  have k0 := h0
  have lt0 : ∀ x ∈ p0, x.block < W.heap.size := by obtain ⟨m, hm⟩ := k0; exact DataW.trod_lt m _ _ _ hm
  obtain ⟨A0, c0, bs0, rfl, hb0, hl0⟩ := open_bytes (hval 0 22 v0 rfl rfl) h0
  clear hA0 hval0
  refine (paintedValue_law A0 c0 bs0 W hb0 hl0).mono fun e W' ⟨he, bel⟩ => ?_
  subst he
  exact ⟨_, rfl, _, _, _, [], _, [], hW', trodAll_mk1 (shut_bool Try.underlying4 _), (trodAll_cons_mk (Below.trod laidOut (by kernel_rfl) (of_decide_eq_true (by kernel_rfl)) k0 bel lt0) trodAll_mk0), rfl, bel.frame _, fun h => by cases h⟩

theorem holds : Rows.FnPaintedValueSaid :=
  OpenClaim.holds_of_wide 7 Try.f7 rfl rfl rfl rfl rfl rfl rfl ⟨rfl, rfl, rfl, rfl, rfl⟩ rfl rfl rfl rfl rfl (by kernel_rfl) Try.func7 (by kernel_rfl)
    (of_decide_eq_true (by kernel_rfl)) (by unfold Func.isWrapper; first | (rw [if_pos (by decide +kernel)]; kernel_rfl) | (rw [if_neg (by decide +kernel)]; exact ⟨rfl, rfl⟩))
    (fun os started H enc _ => lifted os started H enc)
end fnPaintedValue
end Go.Proofs.Ytdacfeebidhgnab
