/- The law FnWholeValue holds of every code: the value at 1 and 2 of a net whose nodes are all joined is how many states join all of them. -/
import Derived.Test.YtdacfeebidhgnabBytes
import Derived.Test.YtdacfeebidhgnabVals
import Derived.Test.YtdacfeebidhgnabDraw11
import Derived.Test.YtdacfeebidhgnabImplCnt
import Derived.Test.YtdacfeebidhgnabImpl11f
import Derived.Test.YtdacfeebidhgnabObj
namespace Go.Proofs.Ytdacfeebidhgnab
open Go.RowKit
set_option maxRecDepth 100000

theorem wholeValue_eq {n : Int} {es : List (Int × Int)} (hn : netOkB n es = true) (hw : wholeB n es ((2 ^ es.length - 1 : Nat) : Int) = true) : valI n es 1 2 = ((sumN (wholeC n es) (es.length + 1) : Nat) : Int) ∧ roadOkB n es 1 2 = true := by
  have h1 := netOkB_iff.1 hn
  have hs : stateOkB n es ((2 ^ es.length - 1 : Nat) : Int) = true := state_of hn (vall_lt _)
  have hok : roadOkB n es 1 2 = true := by
    unfold roadOkB
    rw [hn, inFour_iff.2 (show (-4 : Int) ≤ 1 ∧ (1 : Int) ≤ 4 by omega), inFour_iff.2 (show (-4 : Int) ≤ 2 ∧ (2 : Int) ≤ 4 by omega)]; rfl
  have hp : piecesI n es ((2 ^ es.length - 1 : Nat) : Int) = 1 := by simpa [wholeB] using hw
  rw [piecesI_cast hs] at hp
  have hr := rankI_top hn
  unfold rankI at hr
  rw [if_pos hs] at hr
  have hk : rkN es + 1 = n.toNat := by omega
  refine ⟨?_, hok⟩
  have hv := val_whole (endsL_ok hn) (by omega) hk
  rw [endsL_length] at hv
  unfold valI
  rw [if_pos hok, hv]; rfl
theorem sumW_le {n : Int} {es : List (Int × Int)} (h : es.length ≤ 9) : ∀ k, sumN (wholeC n es) k ≤ k * 1048576
  | 0 => by simp [sumN]
  | k + 1 => by
    have h1 := sumW_le (n := n) h k
    have h2 := wholeC_max (n := n) (es := es) (by omega) k
    show sumN (wholeC n es) k + wholeC n es k ≤ _
    rw [Nat.succ_mul]; omega

set_option maxHeartbeats 8000000 in
theorem wholeValue_law (A : Option Addr) (cap l : Nat) (w : World) (hb : BytesIn w w.heap.size A l) (hc : l ≤ cap) :
    Calls Try.prog 9 #[.slice A l cap] w fun e w' => e = .returned (.bool true) ∧ Below w.heap.size w w' := by
  by_cases hbig : 1048576 < l
  · go_enter Try.func9, Try.ntmps9
    go_wp2
    go_returns
    exact ⟨rfl, Below.refl _ _⟩
  · have hl : l ≤ 1048576 := by omega
    clear hbig
    go_enter Try.func9, Try.ntmps9
    go_wp2_with fail
    refine (drawBasesOf_any _ _ _ _ hb hl hc).mono ?_
    rintro e1 w1 ⟨n, A1, c, es, rfl, own, n1, n7, hle, hb1⟩
    have L1 := ArgNet.start (cap := c) (n := n) 25 own.edges
    have HB := Lib.hid hb1
    have hle' : es.length ≤ 1048576 := by omega
    have hcap := own.cap
    have s1 := Lib.hid hb1.size
    clear own hb hb1
    have HN : Hid (∀ u, ArgNet w1 u n A1 c es → Calls Try.prog 34 #[.agg #[.int .i64 n, .slice A1 es.length c]] u fun e w' => e = .returned (.bool (netOkB n es)) ∧ Below u.heap.size u w') := fun u h => specNetOk_any n A1 c es u h.edges hle'
    have c0 := L1.c0
    have c1 := L1.c1
    cases hn : netOkB n es with
    | false =>
      rw [hn] at HN
      clear hn
      go_wp2_with fail
      refine wp_region_class (fun u => ArgNet w1 u n A1 c es) (by kernel_rfl) (by kernel_rfl) L1.drew ?_
      clear L1 c0 c1
      intro X hX f hf hex
      have k0 : ∀ x, (f x).cell? ⟨w1.heap.size, 0, none⟩ = some (.int .i64 n) := fun x => (hf x).c0
      have k1 : ∀ x, (f x).cell? ⟨w1.heap.size, 1, none⟩ = some (.slice A1 es.length c) := fun x => (hf x).c1
      repeat (go_big_quiet_step (first | (go_at_call 34; with_reducible exact class_of hex (HN.out _ (hf _)) (hf _).on)))
      refine wpQuiet_nil ?_
      rintro _ ⟨x9, rfl⟩
      have L5 := hf x9
      clear k0 k1 hex
      have c0 := L5.c0
      have c1 := L5.c1
      go_wp2_with fail
      refine (alive_any _).mono ?_
      rintro e6 w6 ⟨rfl, hb6⟩
      have L6 := L5.step hb6 L5.lt
      go_wp2_with fail
      go_returns
      exact ⟨by first | rfl | simp, HB.out.trans (L6.below.mono s1.out)⟩
    | true =>
      rw [hn] at HN
      have h9 := (netOkB_iff.1 hn).2.1
      obtain ⟨P, hP, p1, p2, hp3, hp4⟩ := pow_named h9
      have HP3 := Lib.hid hp3
      have HP4 := Lib.hid hp4
      clear hp3 hp4
      obtain ⟨Q, hQ⟩ : ∃ Q, P - 1 = Q := ⟨_, rfl⟩
      have wq : IntKind.i64.wrap ((P : Int) - 1) = (Q : Int) := by clear hP HP3 HP4; rw [IntWalk.i64_in _ (by omega)]; omega
      have HW : Hid (∀ u, ArgNet w1 u n A1 c es → Calls Try.prog 40 #[.agg #[.int .i64 n, .slice A1 es.length c], .int .i64 (Q : Nat)] u fun e w' => e = .returned (.bool (wholeB n es (Q : Nat))) ∧ Below u.heap.size u w') := fun u h => wholeOk_any n _ A1 c es u h.edges hle'
      cases hw : wholeB n es (Q : Nat) with
      | false =>
        rw [hw] at HW
        clear hw hn hP hQ p1 p2
        have hp3 := HP3.out
        have hp4 := HP4.out
        have h9i : ¬ (9 : Int) < es.length := by omega
        clear HP3 HP4 h9 hle hle' hcap n1 n7
        go_wp2_with fail
        refine wp_region_class (fun u => ArgNet w1 u n A1 c es) (by kernel_rfl) (by kernel_rfl) L1.drew ?_
        clear L1 c0 c1
        intro X hX f hf hex
        have k0 : ∀ x, (f x).cell? ⟨w1.heap.size, 0, none⟩ = some (.int .i64 n) := fun x => (hf x).c0
        have k1 : ∀ x, (f x).cell? ⟨w1.heap.size, 1, none⟩ = some (.slice A1 es.length c) := fun x => (hf x).c1
        repeat (go_big_quiet_step (first | (go_at_call 34; with_reducible exact class_of hex (HN.out _ (hf _)) (hf _).on) | (go_at_call 40; with_reducible exact class_of hex (HW.out _ (hf _)) (hf _).on)))
        refine wpQuiet_nil ?_
        rintro _ ⟨x9, rfl⟩
        have L5 := hf x9
        clear k0 k1 hex
        have c0 := L5.c0
        have c1 := L5.c1
        clear hp3 hp4
        go_wp2_with fail
        refine (alive_any _).mono ?_
        rintro e6 w6 ⟨rfl, hb6⟩
        have L6 := L5.step hb6 L5.lt
        go_wp2_with fail
        go_returns
        exact ⟨by first | rfl | simp, HB.out.trans (L6.below.mono s1.out)⟩
      | true =>
        rw [hw] at HW
        rw [← hQ, ← hP] at hw
        obtain ⟨hv, hro⟩ := wholeValue_eq hn hw
        have HE : Hid (∀ u, EdgesIn u u.heap.size A1 es → Calls Try.prog 20 #[.agg #[.int .i64 n, .slice A1 es.length c], .int .i64 1, .int .i64 2] u fun e w' => e = .returned (.tuple #[.int .i64 (valI n es 1 2), .bool (roadOkB n es 1 2)]) ∧ Below u.heap.size u w') := fun u h => byEdges_any n 1 2 A1 c es u h hle' hcap
        rw [hv, hro] at HE
        have hlW : (wholeL n es).length = es.length + 1 := by unfold wholeL; rw [if_pos hn, rowL_length]
        have HWv : Hid (∀ k, k < es.length + 1 → (wholeL n es).getD k 0 = (wholeC n es k : Nat)) := fun k hk => by unfold wholeL; rw [if_pos hn, rowL_getD _ hk]
        have HI : Hid (∀ u, EdgesIn u u.heap.size A1 es → Calls Try.prog 41 #[.agg #[.int .i64 n, .slice A1 es.length c]] u (GotRow u es.length (wholeL n es))) := fun u h => (wholeCounts_any n A1 c es u h hle').mono fun _ _ => GotInts.row hlW
        have HM : Hid (∀ k, wholeC n es k ≤ 1048576) := fun k => wholeC_max (by omega) k
        have HSL : Hid (∀ k, sumN (wholeC n es) k ≤ k * 1048576) := sumW_le h9
        clear hw hn hP hQ p1 p2 hv hro hlW
        generalize wholeL n es = fs at *
        generalize wholeC n es = T at *
        have hp3 := HP3.out
        have hp4 := HP4.out
        clear HP3 HP4
        have H9 := Lib.hid h9
        have HLE := Lib.hid hle'
        have HCP := Lib.hid hcap
        have h9i : ¬ (9 : Int) < es.length := by omega
        clear h9 hle hle' hcap n1 n7
        go_wp2_with fail
        refine wp_region_class (fun u => ArgNet w1 u n A1 c es) (by kernel_rfl) (by kernel_rfl) L1.drew ?_
        clear L1 c0 c1
        intro X hX f hf hex
        have k0 : ∀ x, (f x).cell? ⟨w1.heap.size, 0, none⟩ = some (.int .i64 n) := fun x => (hf x).c0
        have k1 : ∀ x, (f x).cell? ⟨w1.heap.size, 1, none⟩ = some (.slice A1 es.length c) := fun x => (hf x).c1
        repeat (go_big_quiet_step (first | (go_at_call 34; with_reducible exact class_of hex (HN.out _ (hf _)) (hf _).on) | (go_at_call 40; with_reducible exact class_of hex (HW.out _ (hf _)) (hf _).on)))
        refine wpQuiet_nil ?_
        rintro _ ⟨x9, rfl⟩
        have L5 := hf x9
        clear k0 k1 hex
        have c0 := L5.c0
        have c1 := L5.c1
        clear hp3 hp4 HN HW wq
        generalize hSV : sumN T (es.length + 1) = V at *
        have HSV := Lib.hid hSV
        clear hSV
        go_wp2_with fail
        refine (HE.out _ L5.edges).mono ?_
        rintro e6 w6 ⟨rfl, hb6⟩
        have L6 := L5.step hb6 L5.lt
        clear hb6 L5 c0 c1 HE
        have c0 := L6.c0
        have c1 := L6.c1
        go_wp2_with fail
        refine (HI.out _ L6.edges).mono ?_
        rintro e7 w7 ⟨g, cg, rfl, own, hb7⟩
        have L7 := L6.step hb7 L6.lt
        clear hb7 L6 c0 c1 HI
        have F7 := RowAt.start own
        generalize hB0 : w6.heap.size = B0 at *
        generalize hB1 : w7.heap.size = B1 at *
        clear hB0 own
        have h9 := H9.out
        go_wp2_with fail
        go_loopw [6, 8] (fun s k wr => ∃ K : Nat, K ≤ es.length + 1 ∧ k = .int .i64 (K : Nat) ∧ s = .int .i64 ((sumN T K : Nat) : Int) ∧ ArgNet w1 wr n A1 c es ∧ RowAt wr B0 B1 (.slice (some ⟨g, 0, none⟩) (es.length + 1) cg) fs) (fun _ k _ => es.length + 1 - (intOf k).toNat)
        case atStart => exact ⟨0, by omega, rfl, rfl, L7, F7⟩
        case round =>
          clear L7 F7
          obtain ⟨K, hK, rfl, rfl, L, F⟩ := hrel
          by_cases hlt : K < es.length + 1
          · have x1 := F.cell (k := K) hlt
            rw [HWv.out K hlt] at x1
            have z1 := HSL.out K
            have z2 := HM.out K
            have HX : Hid (sumN T (K + 1) = sumN T K + T K) := rfl
            have iK : (K : Int) < (es.length : Int) + 1 := by omega
            generalize sumN T K = s at *
            generalize T K = x at *
            have ws : IntKind.i64.wrap ((s : Int) + (x : Int)) = ((s + x : Nat) : Int) := by rw [IntWalk.i64_in _ (by omega)]; omega
            go_wp2_with fail
            go_roundw
            case rel => exact ⟨K + 1, by omega, by go_num, by rw [HX.out, Int.natCast_add], L, F⟩
            case measure => simp [intOf]; omega
          · obtain rfl : K = es.length + 1 := by omega
            rw [HSV.out]
            go_wp2_with fail
            go_returns
            exact ⟨by first | rfl | simp, HB.out.trans (L.below.mono s1.out)⟩

namespace fnWholeValue
open Go.ChangeShapes Go.WideShapes Go.ChangeAt Go.RowKit Go.Deep Go.Joins
set_option linter.unusedVariables false
set_option maxRecDepth 100000 in
theorem lifted (os : Os) (started : os.Started) (H : Type) (enc : TypeId × Value → H) :
    ReturnsInHanded {} Try.checked os 9 .any (Rows.fnWholeValueSpec.pre6 enc Try.prog Try.f9 Rows.fnWholeValueRow.domain false) (Rows.fnWholeValueSpec.post enc Try.prog Try.f9 false true false false) := by
  refine returnsInHanded_of_change (C := Try.checked) own started (by kernel_rfl) Try.func9
    (ChangeSpec.witness6 (enc := enc) (C := Try.checked) false ⟨#[], #[.slice none 0 0], []⟩ 8 (by kernel_rfl) (by kernel_rfl) (by kernel_rfl) (by kernel_rfl)) ?_
  intro W base args ds gs before hval0 hW hcnd _
  have hval : ∀ (j : Nat) t v, Try.f9.params[j]? = some t → args[j]? = some v → Value.okWide Try.prog W .any base t v := hval0
  have hW' := hW
  obtain ⟨p, q, hA0, hV, rfl, hfz, hnd⟩ := hW
  have hA : DataW.TrodAll enc Try.prog W 0 (fun _ => true) true Try.f9.params.toList args.toList ds p := hA0
  rw [Try.params9] at hA hval
  obtain ⟨v0, vs0, d0, ds0, p0, q0, hargs, rfl, rfl, h0, r0⟩ := trodAll_cons hA
  obtain ⟨rfl, rfl, rfl⟩ := trodAll_nil r0
  obtain rfl : args = #[v0] := by cases args; simp_all
  obtain ⟨rfl, rfl⟩ := trodVars_none hV
  have k0 := h0
  have lt0 : ∀ x ∈ p0, x.block < W.heap.size := by obtain ⟨m, hm⟩ := k0; exact DataW.trod_lt m _ _ _ hm
  obtain ⟨A0, c0, bs0, rfl, hb0, hl0⟩ := open_bytes (hval 0 22 v0 rfl rfl) h0
  clear hA0 hval0
  refine (wholeValue_law A0 c0 bs0 W hb0 hl0).mono fun e W' ⟨he, bel⟩ => ?_
  subst he
  exact ⟨_, rfl, _, _, _, [], _, [], hW', trodAll_mk1 (shut_bool Try.underlying4 _), (trodAll_cons_mk (Below.trod laidOut (by kernel_rfl) (of_decide_eq_true (by kernel_rfl)) k0 bel lt0) trodAll_mk0), rfl, bel.frame _, fun h => by cases h⟩

theorem holds : Rows.FnWholeValueSaid :=
  OpenClaim.holds_of_wide 9 Try.f9 rfl rfl rfl rfl rfl rfl rfl ⟨rfl, rfl, rfl, rfl, rfl⟩ rfl rfl rfl rfl rfl (by kernel_rfl) Try.func9 (by kernel_rfl)
    (of_decide_eq_true (by kernel_rfl)) (by unfold Func.isWrapper; first | (rw [if_pos (by decide +kernel)]; kernel_rfl) | (rw [if_neg (by decide +kernel)]; exact ⟨rfl, rfl⟩))
    (fun os started H enc _ => lifted os started H enc)
end fnWholeValue
end Go.Proofs.Ytdacfeebidhgnab
