/- The law FnChoicesOf holds of every code: with one thing more, if that may be, it is it and that of one chosen fewer, added; all choices are together 2 taken as often as there are things. -/
import Derived.Test.YtikmkdonbfngeaaBytes
import Derived.Test.YtikmkdonbfngeaaDrawR
import Derived.Test.YtikmkdonbfngeaaChoose
namespace Go.Proofs.Ytikmkdonbfngeaa
open Go.RowKit
set_option maxRecDepth 100000

def chsTo (n : Nat) : Nat → Nat
  | 0 => 0
  | j + 1 => chsTo n j + chs n j
theorem chsTo_sum (n : Nat) : ∀ k, chsTo n (k + 1) = chsSum n k
  | 0 => by simp [chsTo, chsSum]
  | k + 1 => by rw [chsTo, chsTo_sum n k, chsSum]
theorem chsTo_le {n : Nat} (h : n ≤ 20) : ∀ k, chsTo n k ≤ k * 1048576
  | 0 => by simp [chsTo]
  | k + 1 => by
    have h1 := chsTo_le h k
    have h2 := chs_bound h k
    rw [chsTo]; omega
theorem chsTo_all (n : Nat) : chsTo n (n + 1) = 2 ^ n := by rw [chsTo_sum, chsSum_all]
theorem pow_named20 {l : Nat} (h : l ≤ 20) : ∃ P : Nat, 2 ^ l = P ∧ P ≤ 1048576 ∧ wrap64 (2 ^ l) = (P : Int) ∧ IntKind.i64.wrap (2 ^ l) = (P : Int) := by
  have h2 : 2 ^ l ≤ 2 ^ 20 := Nat.pow_le_pow_right (by omega) h
  have e : (2 : Int) ^ l = ((2 ^ l : Nat) : Int) := by rw [Int.natCast_pow]; rfl
  refine ⟨2 ^ l, rfl, h2, ?_, ?_⟩
  · rw [e]; generalize 2 ^ l = P at *; unfold wrap64; omega
  · rw [e, IntWalk.i64_left]; generalize 2 ^ l = P at *; unfold wrap64; omega

set_option maxHeartbeats 4000000 in
theorem choicesOf_law (A : Option Addr) (cap l : Nat) (w : World) (hb : BytesIn w w.heap.size A l) (hc : l ≤ cap) :
    Calls Try.prog 9 #[.slice A l cap] w fun e w' => e = .returned (.bool true) ∧ Below w.heap.size w w' := by
  by_cases hbig : 1048576 < l
  · go_enter Try.func9, Try.ntmps9
    go_wp2
    go_returns
    exact ⟨rfl, Below.refl _ _⟩
  · have hl : l ≤ 1048576 := by omega
    clear hbig
    go_enter Try.func9, Try.ntmps9
    go_wp2_with fail
    refine (drawChoicesOf_any _ _ _ _ hb hl hc).mono ?_
    rintro e1 w1 ⟨n, k, rfl, n0, n1, k0, k1, BB1⟩
    by_cases hok : (0 ≤ n ∧ n ≤ 20) ∧ 0 ≤ k
    · obtain ⟨N, rfl⟩ : ∃ N : Nat, n = N := ⟨n.toNat, by omega⟩
      obtain ⟨K, rfl⟩ : ∃ K : Nat, k = K := ⟨k.toNat, by omega⟩
      have hN : N ≤ 20 := by omega
      have hcb := chs_bound hN K
      obtain ⟨C, hC⟩ : ∃ C, chs N K = C := ⟨_, rfl⟩
      have HC : Hid (chsI N K = (C : Int)) := by rw [Hid, chsI_nat hN, hC]
      rw [hC] at hcb
      have HCN := Lib.hid hC
      clear hC
      go_wp2_with fail
      refine (choices_is _ _ _ HC.out _).mono ?_
      rintro e2 w2 ⟨rfl, hb2⟩
      have BB2 := BB1.trans (hb2.mono BB1.size)
      go_wp2_with fail
      refine (specChoices_is _ _ _ HC.out _).mono ?_
      rintro e3 w3 ⟨rfl, rfl⟩
      clear BB1 hb2
      go_wp2_with fail
      go_loopw [6, 7] (fun v t wr => ∃ j : Nat, j ≤ N + 1 ∧ t = .int .i64 (j : Nat) ∧ v = .int .i64 (chsTo N j : Nat) ∧ Below w.heap.size w wr) (fun _ t _ => N + 1 - (intOf t).toNat)
      case atStart => exact ⟨0, by omega, rfl, rfl, BB2⟩
      case round =>
        clear BB2
        obtain ⟨j, hj, rfl, rfl, BB⟩ := hrel
        by_cases hlt : j < N + 1
        · have h1 := chsTo_le hN j
          have h2 := chs_bound hN j
          have HS : Hid (chsTo N (j + 1) = chsTo N j + chs N j) := rfl
          have HJ := Lib.hid (chsI_nat (n := N) (k := j) hN)
          generalize chsTo N j = x at *
          generalize chs N j = y at *
          have wxy : IntKind.i64.wrap ((x : Int) + (y : Int)) = ((x + y : Nat) : Int) := by rw [IntWalk.i64_in _ (by omega)]; omega
          go_wp2_with fail
          refine (choices_is _ _ _ HJ.out _).mono ?_
          rintro e4 w4 ⟨rfl, hb4⟩
          have BB4 := BB.trans (hb4.mono BB.size)
          go_wp2_with fail
          go_roundw
          case rel => exact ⟨j + 1, by omega, by go_num, by rw [HS.out, Int.natCast_add], BB4⟩
          case measure => simp [intOf]; omega
        · obtain rfl : j = N + 1 := by omega
          obtain ⟨P, hP, p1, hp3, hp4⟩ := pow_named20 hN
          rw [chsTo_all, hP]
          clear hP hj
          have wn1 : IntKind.i64.wrap ((N : Int) + 1) = ((N + 1 : Nat) : Int) := by rw [IntWalk.i64_in _ (by omega)]; omega
          have H0 : Hid (chsI N (0 : Int) = 1) := by
            have := chsI_nat (n := N) (k := 0) hN
            rw [chs_zero] at this; exact this
          by_cases h20 : ¬ N ≤ 19
          · have HX : Hid (chsI ((N + 1 : Nat) : Int) K = -1) := chsI_not (by omega)
            go_wp2_with fail
            refine (choices_is _ _ _ HX.out _).mono ?_
            rintro e4 w4 ⟨rfl, hb4⟩
            have BB4 := BB.trans (hb4.mono BB.size)
            go_wp2_with fail
            refine (choices_is _ _ _ H0.out _).mono ?_
            rintro e5 w5 ⟨rfl, hb5⟩
            have BB5 := BB4.trans (hb5.mono BB4.size)
            go_wp2_with fail
            go_returns
            exact ⟨rfl, BB5⟩
          · have hxb := chs_bound (n := N + 1) (by omega) K
            have HX := Lib.hid (chsI_nat (n := N + 1) (k := K) (by omega))
            by_cases hK : ¬ 1 ≤ K
            · generalize chs (N + 1) K = x at *
              have hk0 : ((K : Int) == 0) = true := by simp; omega
              go_wp2_with fail
              refine (choices_is _ _ _ HX.out _).mono ?_
              rintro e4 w4 ⟨rfl, hb4⟩
              have BB4 := BB.trans (hb4.mono BB.size)
              go_wp2_with fail
              refine (choices_is _ _ _ H0.out _).mono ?_
              rintro e5 w5 ⟨rfl, hb5⟩
              have BB5 := BB4.trans (hb5.mono BB4.size)
              go_wp2_with fail
              go_returns
              exact ⟨rfl, BB5⟩
            · obtain ⟨K', rfl⟩ : ∃ K', K = K' + 1 := ⟨K - 1, by omega⟩
              have hyb := chs_bound hN K'
              have HY := Lib.hid (chsI_nat (n := N) (k := K') hN)
              have hsum : chs (N + 1) (K' + 1) = C + chs N K' := by rw [chs, HCN.out]
              rw [hsum] at HX hxb
              generalize chs N K' = y at *
              clear hsum HCN HC
              have wk : IntKind.i64.wrap (((K' + 1 : Nat) : Int) - 1) = (K' : Int) := by rw [IntWalk.i64_in _ (by omega)]; omega
              have wk2 : IntKind.i64.wrap ((K' : Int) + 1 - 1) = (K' : Int) := by rw [IntWalk.i64_in _ (by omega)]; omega
              have wcy : IntKind.i64.wrap ((C : Int) + (y : Int)) = ((C + y : Nat) : Int) := by rw [IntWalk.i64_in _ (by omega)]; omega
              go_wp2_with fail
              refine (choices_is _ _ _ HX.out _).mono ?_
              rintro e4 w4 ⟨rfl, hb4⟩
              have BB4 := BB.trans (hb4.mono BB.size)
              go_wp2_with fail
              refine (choices_is _ _ _ HY.out _).mono ?_
              rintro e5 w5 ⟨rfl, hb5⟩
              have BB5 := BB4.trans (hb5.mono BB4.size)
              go_wp2_with fail
              refine (choices_is _ _ _ H0.out _).mono ?_
              rintro e6 w6 ⟨rfl, hb6⟩
              have BB6 := BB5.trans (hb6.mono BB5.size)
              go_wp2_with fail
              go_returns
              exact ⟨rfl, BB6⟩
    · have HX : Hid (chsI n k = -1) := chsI_not hok
      clear hok
      go_wp2_with fail
      refine (choices_is _ _ _ HX.out _).mono ?_
      rintro e2 w2 ⟨rfl, hb2⟩
      have BB2 := BB1.trans (hb2.mono BB1.size)
      go_wp2_with fail
      refine (specChoices_is _ _ _ HX.out _).mono ?_
      rintro e3 w3 ⟨rfl, rfl⟩
      go_wp2_with fail
      refine (alive_any _).mono ?_
      rintro e4 w4 ⟨rfl, hb4⟩
      have BB4 := BB2.trans (hb4.mono BB2.size)
      go_wp2_with fail
      go_returns
      exact ⟨rfl, BB4⟩

namespace fnChoicesOf
open Go.ChangeShapes Go.WideShapes Go.ChangeAt Go.RowKit Go.Deep Go.Joins
set_option linter.unusedVariables false
set_option maxRecDepth 100000 in
theorem lifted (os : Os) (started : os.Started) (H : Type) (enc : TypeId × Value → H) :
    ReturnsInHanded {} Try.checked os 9 .any (Rows.fnChoicesOfSpec.pre6 enc Try.prog Try.f9 Rows.fnChoicesOfRow.domain false) (Rows.fnChoicesOfSpec.post enc Try.prog Try.f9 false true false false) := by
  refine returnsInHanded_of_change (C := Try.checked) own started (by kernel_rfl) Try.func9
    (ChangeSpec.witness6 (enc := enc) (C := Try.checked) false ⟨#[], #[.slice none 0 0], []⟩ 8 (by kernel_rfl) (by kernel_rfl) (by kernel_rfl) (by kernel_rfl)) ?_
  intro W base args ds gs before hval0 hW hcnd _
  have hval : ∀ (j : Nat) t v, Try.f9.params[j]? = some t → args[j]? = some v → Value.okWide Try.prog W .any base t v := hval0
  have hW' := hW
  obtain ⟨p, q, hA0, hV, rfl, hfz, hnd⟩ := hW
  have hA : DataW.TrodAll enc Try.prog W 0 (fun _ => true) true Try.f9.params.toList args.toList ds p := hA0
  rw [Try.params9] at hA hval
  obtain ⟨v0, vs0, d0, ds0, p0, q0, hargs, rfl, rfl, h0, r0⟩ := trodAll_cons hA
  obtain ⟨rfl, rfl, rfl⟩ := trodAll_nil r0
  obtain rfl : args = #[v0] := by cases args; simp_all
  obtain ⟨rfl, rfl⟩ := trodVars_none hV
  have k0 := h0
  have lt0 : ∀ x ∈ p0, x.block < W.heap.size := by obtain ⟨m, hm⟩ := k0; exact DataW.trod_lt m _ _ _ hm
  obtain ⟨A0, c0, bs0, rfl, hb0, hl0⟩ := open_bytes (hval 0 22 v0 rfl rfl) h0
  clear hA0 hval0
  refine (choicesOf_law A0 c0 bs0 W hb0 hl0).mono fun e W' ⟨he, bel⟩ => ?_
  subst he
  exact ⟨_, rfl, _, _, _, [], _, [], hW', trodAll_mk1 (shut_bool Try.underlying4 _), (trodAll_cons_mk (Below.trod laidOut (by kernel_rfl) (of_decide_eq_true (by kernel_rfl)) k0 bel lt0) trodAll_mk0), rfl, bel.frame _, fun h => by cases h⟩

theorem holds : Rows.FnChoicesOfSaid :=
  OpenClaim.holds_of_wide 9 Try.f9 rfl rfl rfl rfl rfl rfl rfl ⟨rfl, rfl, rfl, rfl, rfl⟩ rfl rfl rfl rfl rfl (by kernel_rfl) Try.func9 (by kernel_rfl)
    (of_decide_eq_true (by kernel_rfl)) (by unfold Func.isWrapper; first | (rw [if_pos (by decide +kernel)]; kernel_rfl) | (rw [if_neg (by decide +kernel)]; exact ⟨rfl, rfl⟩))
    (fun os started H enc _ => lifted os started H enc)
end fnChoicesOf

end Go.Proofs.Ytikmkdonbfngeaa
