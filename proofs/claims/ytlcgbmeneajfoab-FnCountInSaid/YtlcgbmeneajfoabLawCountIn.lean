/- The law FnCountIn holds of every code: a family and what does not block it are all states; it has no states exactly without least states. -/
import Derived.Test.YtlcgbmeneajfoabBytes
import Derived.Test.YtlcgbmeneajfoabDraw8
import Derived.Test.YtlcgbmeneajfoabImpl8f
import Derived.Test.YtlcgbmeneajfoabFamO
namespace Go.Proofs.Ytlcgbmeneajfoab
open Go.RowKit
set_option maxRecDepth 100000

set_option maxHeartbeats 4000000 in
theorem countIn_law (A : Option Addr) (cap l : Nat) (w : World) (hb : BytesIn w w.heap.size A l) (hc : l ≤ cap) :
    Calls Try.prog 3 #[.slice A l cap] w fun e w' => e = .returned (.bool true) ∧ Below w.heap.size w w' := by
  by_cases hbig : 1048576 < l
  · go_enter Try.func3, Try.ntmps3
    go_wp2
    go_returns
    exact ⟨rfl, Below.refl _ _⟩
  have hl : l ≤ 1048576 := by omega
  clear hbig
  have HI : Hid (∀ (u : World) (t : Int) (A : Option Addr) (c m : Nat) (xs : List Int) (v : Int), famCountI t xs = v → xs.length = m → m ≤ 65 → IntsIn u u.heap.size A xs → Calls Try.prog 15 #[.agg #[.int .i64 t, .slice A m c]] u fun e w' => e = .returned (.int .i64 v) ∧ Below u.heap.size u w') := fun u t A c m xs v hv hm hl hi => by
    subst hv hm; exact countIn_any t A c xs u hi (by omega)
  have HS : Hid (∀ (u : World) (t : Int) (A : Option Addr) (c m : Nat) (xs : List Int) (v : Int), famCountI t xs = v → xs.length = m → m ≤ 65 → IntsIn u u.heap.size A xs → Calls Try.prog 16 #[.agg #[.int .i64 t, .slice A m c]] u fun e w' => e = .returned (.int .i64 v) ∧ Below u.heap.size u w') := fun u t A c m xs v hv hm hl hi => by
    subst hv hm; exact specCountIn_any t A c xs u hi (by unfold maxLen; omega)
  have HO : Hid (∀ (u : World) (t : Int) (A : Option Addr) (c m : Nat) (xs : List Int) (v : Bool), famOkB t xs = v → xs.length = m → m ≤ 65 → IntsIn u u.heap.size A xs → Calls Try.prog 17 #[.agg #[.int .i64 t, .slice A m c]] u fun e w' => e = .returned (.bool v) ∧ Below u.heap.size u w') := fun u t A c m xs v hv hm hl hi => by
    subst hv hm; exact familyOk_any t A c xs u hi (by omega)
  go_enter Try.func3, Try.ntmps3
  go_wp2_with fail
  refine (drawCountIn_any _ _ _ _ hb hl hc).mono ?_
  rintro e1 w1 ⟨t, A1, c1, xs, rfl, own, t0, t1, hx, BB1⟩
  have D0 := FamObj.start (t := t) 25 BB1.size own
  have BB2 := BB1.alloc BB1.size (.cells #[.int .i64 t, .slice A1 xs.length c1] 25)
  obtain ⟨m, hm⟩ : ∃ m, xs.length = m := ⟨_, rfl⟩
  rw [hm] at D0 BB2 hx ⊢
  obtain ⟨W, hW⟩ : ∃ W, W = w1.alloc (.cells #[.int .i64 t, .slice A1 m c1] 25) := ⟨_, rfl⟩
  have HM := Lib.hid hm
  clear hb hl hc own
  go_wp2_with fail
  rw [← hW] at D0 BB2 ⊢
  clear hW BB1
  generalize w1.heap.size = b at *
  cases hB : famOkB t xs with
  | false =>
    have HB := Lib.hid hB
    have HV : Hid (famCountI t xs = -1) := by unfold Hid famCountI; rw [hB]; rfl
    clear hB hm
    refine (HI.out _ _ _ _ _ _ _ HV.out HM.out hx D0.ints).mono ?_
    rintro e2 w2 ⟨rfl, hb2⟩
    have D2 := D0.next hb2
    have BB3 := BB2.trans (hb2.mono BB2.size)
    clear D0 hb2 BB2
    have p0 := D2.c0
    have p1 := D2.c1
    have pl := D2.lt
    go_wp2_with fail
    refine (HS.out _ _ _ _ _ _ _ HV.out HM.out hx D2.ints).mono ?_
    rintro e3 w3 ⟨rfl, hb3⟩
    have D3 := D2.next hb3
    have BB4 := BB3.trans (hb3.mono BB3.size)
    clear p0 p1 pl D2 hb3 BB3
    have p0 := D3.c0
    have p1 := D3.c1
    have pl := D3.lt
    go_wp2_with fail
    refine (HO.out _ _ _ _ _ _ _ HB.out HM.out hx D3.ints).mono ?_
    rintro e4 w4 ⟨rfl, hb4⟩
    have BB5 := BB4.trans (hb4.mono BB4.size)
    clear p0 p1 pl D3 hb4 BB4
    go_wp2_with fail
    refine (alive_any _).mono ?_
    rintro e5 w5 ⟨rfl, hb5⟩
    go_wp2_with fail
    go_returns
    exact ⟨by first | rfl | simp, BB5.trans (hb5.mono BB5.size)⟩
  | true =>
    obtain ⟨T, ns, rfl, hT, rfl, hn⟩ := famOkB_iff.1 hB
    have HV := Lib.hid (countI_of hT hn)
    have hok2 := famBl_ok T (by omega) ns
    have HV2 := Lib.hid (countI_of hT hok2)
    obtain ⟨r, hr⟩ : ∃ r, (natI (famBl T ns)).length = r := ⟨_, rfl⟩
    have hr64 : r ≤ 64 := by
      have h1 := hok2.len
      have h2 := pow_64 hT
      rw [← hr, natI_length]; omega
    have HR := Lib.hid hr
    have HK : Hid (∀ (u : World) (A : Option Addr) (c : Nat), IntsIn u u.heap.size A (natI ns) → Calls Try.prog 19 #[.agg #[.int .i64 (T : Nat), .slice A m c]] u (GotM u (T : Nat) r (natI (famBl T ns)) true)) := fun u A c h => by
      have q := blocker_any (T : Nat) A c (natI ns) u h (by rw [HM.out]; omega)
      rw [HM.out, blL_of hT hn, hB, show blT (T : Nat) (natI ns) = (T : Nat) by unfold blT; rw [hB]; rfl] at q
      exact q.mono fun _ _ k => k.m HR.out
    obtain ⟨P, hP, p1', p2', hp3, hp4⟩ := pow_named12 (show T ≤ 13 by omega)
    have hP64 : P ≤ 64 := by rw [← hP]; exact pow_64 hT
    have hmin : min T 64 = T := by omega
    have hsum := famN_block (T := T) (by omega) ns
    have hzero := famN_zero hn
    rw [hP] at hsum
    have hml : ns.length = m := by rw [← hm, natI_length]
    rw [hml] at hzero
    clear hB hm hok2 hr hP hn hml
    generalize famN T ns = n at *
    generalize famN T (famBl T ns) = n2 at *
    generalize natI (famBl T ns) = ys at *
    generalize natI ns = xs at *
    have hw : IntKind.i64.wrap ((n : Int) + (n2 : Int)) = (P : Int) := by rw [IntWalk.i64_in _ (by omega)]; omega
    have hnn : ((n : Int) < 0) = False := eq_false (by omega)
    refine (HI.out _ _ _ _ _ _ _ HV.out HM.out hx D0.ints).mono ?_
    rintro e2 w2 ⟨rfl, hb2⟩
    have D2 := D0.next hb2
    have BB3 := BB2.trans (hb2.mono BB2.size)
    clear D0 hb2 BB2
    have p0 := D2.c0
    have p1 := D2.c1
    have pl := D2.lt
    go_wp2_with fail
    refine (HS.out _ _ _ _ _ _ _ HV.out HM.out hx D2.ints).mono ?_
    rintro e3 w3 ⟨rfl, hb3⟩
    have D3 := D2.next hb3
    have BB4 := BB3.trans (hb3.mono BB3.size)
    clear p0 p1 pl D2 hb3 BB3
    have p0 := D3.c0
    have p1 := D3.c1
    have pl := D3.lt
    go_wp2_with fail
    refine (HK.out _ _ _ D3.ints).mono ?_
    rintro e4 w4 ⟨A4, c4, rfl, own4, hb4⟩
    have D4 := D3.next hb4
    have BB5 := BB4.trans (hb4.mono BB4.size)
    have E5 := FamObj.start (t := (T : Nat)) 25 hb4.size own4
    have D5 := D4.alloc (.cells #[.int .i64 (T : Nat), .slice A4 r c4] 25)
    have BB6 := BB5.alloc BB5.size (.cells #[.int .i64 (T : Nat), .slice A4 r c4] 25)
    clear p0 p1 pl D3 hb4 BB4 own4 BB5
    have p0 := D4.c0
    have p1 := D4.c1
    have pl := D4.lt
    go_wp2_with fail
    refine wp_region_class (fun u => (FamObj u w.heap.size (b + 1) b (T : Nat) A1 m c1 xs ∧ FamObj u w3.heap.size (w4.heap.size + 1) w4.heap.size (T : Nat) A4 r c4 ys) ∧ Below w.heap.size w u) (by kernel_rfl) (by kernel_rfl) ⟨⟨D5.drew, E5.drew⟩, BB6.drew⟩ ?_
    clear D4 D5 E5 BB6 p0 p1 pl
    intro X hX f hf hex
    have k0 : ∀ x, (f x).cell? ⟨b, 0, none⟩ = some (.int .i64 (T : Nat)) := fun x => (hf x).1.1.c0
    have k1 : ∀ x, (f x).cell? ⟨b, 1, none⟩ = some (.slice A1 m c1) := fun x => (hf x).1.1.c1
    have k2 : ∀ x, (f x).cell? ⟨w4.heap.size, 0, none⟩ = some (.int .i64 (T : Nat)) := fun x => (hf x).1.2.c0
    have k3 : ∀ x, (f x).cell? ⟨w4.heap.size, 1, none⟩ = some (.slice A4 r c4) := fun x => (hf x).1.2.c1
    have HC : Hid (∀ x, Calls Try.prog 15 #[.agg #[.int .i64 (T : Nat), .slice A4 r c4]] (f x) fun e w' => e = .returned (.int .i64 (n2 : Nat)) ∧ Below (f x).heap.size (f x) w') := fun x => HI.out _ _ _ _ _ _ _ HV2.out HR.out (by omega) (hf x).1.2.ints
    have HD : Hid (∀ x w', Below (f x).heap.size (f x) w' → ((FamObj w' w.heap.size (b + 1) b (T : Nat) A1 m c1 xs ∧ FamObj w' w3.heap.size (w4.heap.size + 1) w4.heap.size (T : Nat) A4 r c4 ys) ∧ Below w.heap.size w w')) := fun x w' hb => ⟨⟨(hf x).1.1.next hb, (hf x).1.2.next hb⟩, (hf x).2.trans (hb.mono (hf x).2.size)⟩
    by_cases hn0 : n = 0
    · have hm0 : m = 0 := by
        rw [decide_eq_true hn0] at hzero
        exact of_decide_eq_true hzero.symm
      subst hn0 hm0
      have hn2 : n2 = P := by omega
      subst hn2
      have hw2 : IntKind.i64.wrap (n2 : Int) = (n2 : Int) := IntWalk.i64_in _ (by omega)
      have hw3 : wrap64 (n2 : Int) = (n2 : Int) := by unfold wrap64; omega
      clear hzero hw
      repeat (go_big_quiet_step (first | (go_at_call 15; with_reducible exact class_of hex (HC.out _) (HD.out _))))
      refine wpQuiet_nil ?_
      rintro _ ⟨x, rfl⟩
      have BB := (hf x).2
      go_wp2_with fail
      go_returns
      exact ⟨by first | rfl | simp, BB⟩
    · have hm0 : m ≠ 0 := by
        rw [decide_eq_false hn0] at hzero
        exact of_decide_eq_false hzero.symm
      have e1 : ((n : Int) == 0) = false := by simp; omega
      have e2 : ((m : Int) == 0) = false := by simp; omega
      have e3 : ((n : Int) = 0) = False := eq_false (by omega)
      have e4 : ((m : Int) = 0) = False := eq_false (by omega)
      clear hzero
      repeat (go_big_quiet_step (first | (go_at_call 15; with_reducible exact class_of hex (HC.out _) (HD.out _))))
      refine wpQuiet_nil ?_
      rintro _ ⟨x, rfl⟩
      have BB := (hf x).2
      go_wp2_with fail
      go_returns
      exact ⟨by first | rfl | simp, BB⟩

namespace fnCountIn
open Go.ChangeShapes Go.WideShapes Go.ChangeAt Go.RowKit Go.Deep Go.Joins
set_option linter.unusedVariables false
set_option maxRecDepth 100000 in
theorem lifted (os : Os) (started : os.Started) (H : Type) (enc : TypeId × Value → H) :
    ReturnsInHanded {} Try.checked os 3 .any (Rows.fnCountInSpec.pre6 enc Try.prog Try.f3 Rows.fnCountInRow.domain false) (Rows.fnCountInSpec.post enc Try.prog Try.f3 false true false false) := by
  refine returnsInHanded_of_change (C := Try.checked) own started (by kernel_rfl) Try.func3
    (ChangeSpec.witness6 (enc := enc) (C := Try.checked) false ⟨#[], #[.slice none 0 0], []⟩ 8 (by kernel_rfl) (by kernel_rfl) (by kernel_rfl) (by kernel_rfl)) ?_
  intro W base args ds gs before hval0 hW hcnd _
  have hval : ∀ (j : Nat) t v, Try.f3.params[j]? = some t → args[j]? = some v → Value.okWide Try.prog W .any base t v := hval0
  have hW' := hW
  obtain ⟨p, q, hA0, hV, rfl, hfz, hnd⟩ := hW
  have hA : DataW.TrodAll enc Try.prog W 0 (fun _ => true) true Try.f3.params.toList args.toList ds p := hA0
  rw [Try.params3] at hA hval
  obtain ⟨v0, vs0, d0, ds0, p0, q0, hargs, rfl, rfl, h0, r0⟩ := trodAll_cons hA
  obtain ⟨rfl, rfl, rfl⟩ := trodAll_nil r0
  obtain rfl : args = #[v0] := by cases args; simp_all
  obtain ⟨rfl, rfl⟩ := trodVars_none hV
  have k0 := h0
  have lt0 : ∀ x ∈ p0, x.block < W.heap.size := by obtain ⟨m, hm⟩ := k0; exact DataW.trod_lt m _ _ _ hm
  obtain ⟨A0, c0, bs0, rfl, hb0, hl0⟩ := open_bytes (hval 0 22 v0 rfl rfl) h0
  clear hA0 hval0
  refine (countIn_law A0 c0 bs0 W hb0 hl0).mono fun e W' ⟨he, bel⟩ => ?_
  subst he
  exact ⟨_, rfl, _, _, _, [], _, [], hW', trodAll_mk1 (shut_bool Try.underlying4 _), (trodAll_cons_mk (Below.trod laidOut (by kernel_rfl) (of_decide_eq_true (by kernel_rfl)) k0 bel lt0) trodAll_mk0), rfl, bel.frame _, fun h => by cases h⟩

theorem holds : Rows.FnCountInSaid :=
  OpenClaim.holds_of_wide 3 Try.f3 rfl rfl rfl rfl rfl rfl rfl ⟨rfl, rfl, rfl, rfl, rfl⟩ rfl rfl rfl rfl rfl (by kernel_rfl) Try.func3 (by kernel_rfl)
    (of_decide_eq_true (by kernel_rfl)) (by unfold Func.isWrapper; first | (rw [if_pos (by decide +kernel)]; kernel_rfl) | (rw [if_neg (by decide +kernel)]; exact ⟨rfl, rfl⟩))
    (fun os started H enc _ => lifted os started H enc)
end fnCountIn
end Go.Proofs.Ytlcgbmeneajfoab
