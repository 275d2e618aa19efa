/- The law FnFamilyOk holds of every code: of each number of things the family without least states is one, and that whose least state is 0. -/
import Derived.Test.YtlcgbmeneajfoaaBytes
import Derived.Test.YtlcgbmeneajfoaaDraw8
import Derived.Test.YtlcgbmeneajfoaaImpl8
import Derived.Test.YtlcgbmeneajfoaaFamO
namespace Go.Proofs.Ytlcgbmeneajfoaa
open Go.RowKit
set_option maxRecDepth 100000

set_option maxHeartbeats 4000000 in
theorem familyOk_law (A : Option Addr) (cap l : Nat) (w : World) (hb : BytesIn w w.heap.size A l) (hc : l ≤ cap) :
    Calls Try.prog 11 #[.slice A l cap] w fun e w' => e = .returned (.bool true) ∧ Below w.heap.size w w' := by
  by_cases hbig : 1048576 < l
  · go_enter Try.func11, Try.ntmps11
    go_wp2
    go_returns
    exact ⟨rfl, Below.refl _ _⟩
  have hl : l ≤ 1048576 := by omega
  clear hbig
  have HI : Hid (∀ (u : World) (t : Int) (A : Option Addr) (c m : Nat) (xs : List Int) (v : Bool), famOkB t xs = v → xs.length = m → m ≤ 65 → IntsIn u u.heap.size A xs → Calls Try.prog 17 #[.agg #[.int .i64 t, .slice A m c]] u fun e w' => e = .returned (.bool v) ∧ Below u.heap.size u w') := fun u t A c m xs v hv hm hl hi => by
    subst hv hm; exact familyOk_any t A c xs u hi (by omega)
  have HS : Hid (∀ (u : World) (t : Int) (A : Option Addr) (c m : Nat) (xs : List Int) (v : Bool), famOkB t xs = v → xs.length = m → m ≤ 65 → IntsIn u u.heap.size A xs → Calls Try.prog 15 #[.agg #[.int .i64 t, .slice A m c]] u fun e w' => e = .returned (.bool v) ∧ Below u.heap.size u w') := fun u t A c m xs v hv hm hl hi => by
    subst hv hm; exact specFamilyOk_any t A c xs u hi (by unfold maxLen; omega)
  have KN : Hid (∀ T : Nat, T ≤ 6 → famOkB (T : Nat) [] = true) := fun T hT => famOk_of hT (okN_nil T)
  have KZ : Hid (∀ T : Nat, T ≤ 6 → famOkB (T : Nat) [0] = true) := fun T hT => famOk_of hT (okN_zero T)
  have IZ : Hid (∀ u : World, IntsIn (u.alloc (.cells #[.int .i64 0] 3)) (u.alloc (.cells #[.int .i64 0] 3)).heap.size (some ⟨u.heap.size, 0, none⟩) [0]) := fun u k x hk => by
    have h0 : k = 0 := by have := (List.getElem?_eq_some_iff.1 hk).1; simpa using this
    subst h0
    have hx : x = 0 := by simpa using hk.symm
    subst hx
    exact ⟨u.heap.size, 0, rfl, by simp, by rw [World.cell?_alloc_at _ _ _ _ rfl]; rfl⟩
  go_enter Try.func11, Try.ntmps11
  go_wp2_with fail
  refine (drawFamilyOk_any _ _ _ _ hb hl hc).mono ?_
  rintro e1 w1 ⟨t, A1, c1, xs, rfl, own, t0, t1, hx, BB1⟩
  have D0 := FamObj.start (t := t) 27 BB1.size own
  have BB2 := BB1.alloc BB1.size (.cells #[.int .i64 t, .slice A1 xs.length c1] 27)
  obtain ⟨m, hm⟩ : ∃ m, xs.length = m := ⟨_, rfl⟩
  rw [hm] at D0 BB2 hx ⊢
  obtain ⟨W, hW⟩ : ∃ W, W = w1.alloc (.cells #[.int .i64 t, .slice A1 m c1] 27) := ⟨_, rfl⟩
  have HM := Lib.hid hm
  clear hb hl hc own hm
  go_wp2_with fail
  rw [← hW] at D0 BB2 ⊢
  clear hW BB1
  generalize w1.heap.size = b at *
  cases hB : famOkB t xs with
  | false =>
    have HB := Lib.hid hB
    clear hB
    refine (HI.out _ _ _ _ _ _ _ HB.out HM.out hx D0.ints).mono ?_
    rintro e2 w2 ⟨rfl, hb2⟩
    have D2 := D0.next hb2
    have BB4 := BB2.trans (hb2.mono BB2.size)
    clear D0 hb2 BB2
    have p0 := D2.c0
    have p1 := D2.c1
    have pl := D2.lt
    go_wp2_with fail
    refine (HS.out _ _ _ _ _ _ _ HB.out HM.out hx D2.ints).mono ?_
    rintro e3 w3 ⟨rfl, hb3⟩
    have D3 := D2.next hb3
    have BB5 := BB4.trans (hb3.mono BB4.size)
    clear p0 p1 pl D2 hb3 BB4
    have p0 := D3.c0
    have p1 := D3.c1
    have pl := D3.lt
    go_wp2_with fail
    refine (HI.out _ 0 none 0 0 [] _ (KN.out 0 (by omega)) rfl (by omega) IntsIn.nil).mono ?_
    rintro e4 w4 ⟨rfl, hb4⟩
    have D4 := D3.next hb4
    have BB6 := BB5.trans (hb4.mono BB5.size)
    clear p0 p1 pl D3 hb4 BB5
    have p0 := D4.c0
    have p1 := D4.c1
    have pl := D4.lt
    go_wp2_with fail
    refine (HI.out _ 0 _ 1 1 [0] _ (KZ.out 0 (by omega)) rfl (by omega) (IZ.out w4)).mono ?_
    rintro e5 w5 ⟨rfl, hb5⟩
    have A4 := (Below.refl w4.heap.size w4).alloc (Nat.le_refl _) (.cells #[.int .i64 0] 3)
    have D5 := (D4.next A4).next hb5
    have BB7 := (BB6.alloc BB6.size (.cells #[.int .i64 0] 3)).trans (hb5.mono (by have := BB6.size; simp; omega))
    clear p0 p1 pl D4 hb5 A4 BB6
    go_wp2_with fail
    refine (alive_any _).mono ?_
    rintro e6 w6 ⟨rfl, hb6⟩
    go_wp2_with fail
    go_returns
    exact ⟨by first | rfl | simp, BB7.trans (hb6.mono BB7.size)⟩
  | true =>
    have HB := Lib.hid hB
    obtain ⟨T, ns, rfl, hT, -, -⟩ := famOkB_iff.1 hB
    clear hB
    refine (HI.out _ _ _ _ _ _ _ HB.out HM.out hx D0.ints).mono ?_
    rintro e2 w2 ⟨rfl, hb2⟩
    have D2 := D0.next hb2
    have BB4 := BB2.trans (hb2.mono BB2.size)
    clear D0 hb2 BB2
    have p0 := D2.c0
    have p1 := D2.c1
    have pl := D2.lt
    go_wp2_with fail
    refine (HS.out _ _ _ _ _ _ _ HB.out HM.out hx D2.ints).mono ?_
    rintro e3 w3 ⟨rfl, hb3⟩
    have D3 := D2.next hb3
    have BB5 := BB4.trans (hb3.mono BB4.size)
    clear p0 p1 pl D2 hb3 BB4
    have p0 := D3.c0
    have p1 := D3.c1
    have pl := D3.lt
    go_wp2_with fail
    refine (HI.out _ 0 none 0 0 [] _ (KN.out 0 (by omega)) rfl (by omega) IntsIn.nil).mono ?_
    rintro e4 w4 ⟨rfl, hb4⟩
    have D4 := D3.next hb4
    have BB6 := BB5.trans (hb4.mono BB5.size)
    clear p0 p1 pl D3 hb4 BB5
    have p0 := D4.c0
    have p1 := D4.c1
    have pl := D4.lt
    go_wp2_with fail
    refine (HI.out _ 0 _ 1 1 [0] _ (KZ.out 0 (by omega)) rfl (by omega) (IZ.out w4)).mono ?_
    rintro e5 w5 ⟨rfl, hb5⟩
    have A4 := (Below.refl w4.heap.size w4).alloc (Nat.le_refl _) (.cells #[.int .i64 0] 3)
    have D5 := (D4.next A4).next hb5
    have BB7 := (BB6.alloc BB6.size (.cells #[.int .i64 0] 3)).trans (hb5.mono (by have := BB6.size; simp; omega))
    clear p0 p1 pl D4 hb5 A4 BB6
    have p0 := D5.c0
    have p1 := D5.c1
    have pl := D5.lt
    go_wp2_with fail
    refine (HI.out _ (T : Nat) none 0 0 [] _ (KN.out T hT) rfl (by omega) IntsIn.nil).mono ?_
    rintro e6 w6 ⟨rfl, hb6⟩
    have D6 := D5.next hb6
    have BB8 := BB7.trans (hb6.mono BB7.size)
    clear p0 p1 pl D5 hb6 BB7
    have p0 := D6.c0
    have p1 := D6.c1
    have pl := D6.lt
    go_wp2_with fail
    refine (HI.out _ (T : Nat) _ 1 1 [0] _ (KZ.out T hT) rfl (by omega) (IZ.out w6)).mono ?_
    rintro e7 w7 ⟨rfl, hb7⟩
    have BB9 := (BB8.alloc BB8.size (.cells #[.int .i64 0] 3)).trans (hb7.mono (by have := BB8.size; simp; omega))
    clear p0 p1 pl D6 hb7 BB8
    go_wp2_with fail
    refine (alive_any _).mono ?_
    rintro e8 w8 ⟨rfl, hb8⟩
    go_wp2_with fail
    go_returns
    exact ⟨by first | rfl | simp, BB9.trans (hb8.mono BB9.size)⟩

namespace fnFamilyOk
open Go.ChangeShapes Go.WideShapes Go.ChangeAt Go.RowKit Go.Deep Go.Joins
set_option linter.unusedVariables false
set_option maxRecDepth 100000 in
theorem lifted (os : Os) (started : os.Started) (H : Type) (enc : TypeId × Value → H) :
    ReturnsInHanded {} Try.checked os 11 .any (Rows.fnFamilyOkSpec.pre6 enc Try.prog Try.f11 Rows.fnFamilyOkRow.domain false) (Rows.fnFamilyOkSpec.post enc Try.prog Try.f11 false true false false) := by
  refine returnsInHanded_of_change (C := Try.checked) own started (by kernel_rfl) Try.func11
    (ChangeSpec.witness6 (enc := enc) (C := Try.checked) false ⟨#[], #[.slice none 0 0], []⟩ 8 (by kernel_rfl) (by kernel_rfl) (by kernel_rfl) (by kernel_rfl)) ?_
  intro W base args ds gs before hval0 hW hcnd _
  have hval : ∀ (j : Nat) t v, Try.f11.params[j]? = some t → args[j]? = some v → Value.okWide Try.prog W .any base t v := hval0
  have hW' := hW
  obtain ⟨p, q, hA0, hV, rfl, hfz, hnd⟩ := hW
  have hA : DataW.TrodAll enc Try.prog W 0 (fun _ => true) true Try.f11.params.toList args.toList ds p := hA0
  rw [Try.params11] at hA hval
  obtain ⟨v0, vs0, d0, ds0, p0, q0, hargs, rfl, rfl, h0, r0⟩ := trodAll_cons hA
  obtain ⟨rfl, rfl, rfl⟩ := trodAll_nil r0
  obtain rfl : args = #[v0] := by cases args; simp_all
  obtain ⟨rfl, rfl⟩ := trodVars_none hV
  have k0 := h0
  have lt0 : ∀ x ∈ p0, x.block < W.heap.size := by obtain ⟨m, hm⟩ := k0; exact DataW.trod_lt m _ _ _ hm
  obtain ⟨A0, c0, bs0, rfl, hb0, hl0⟩ := open_bytes (hval 0 44 v0 rfl rfl) h0
  clear hA0 hval0
  refine (familyOk_law A0 c0 bs0 W hb0 hl0).mono fun e W' ⟨he, bel⟩ => ?_
  subst he
  exact ⟨_, rfl, _, _, _, [], _, [], hW', trodAll_mk1 (shut_bool Try.underlying4 _), (trodAll_cons_mk (Below.trod laidOut (by kernel_rfl) (of_decide_eq_true (by kernel_rfl)) k0 bel lt0) trodAll_mk0), rfl, bel.frame _, fun h => by cases h⟩

theorem holds : Rows.FnFamilyOkSaid :=
  OpenClaim.holds_of_wide 11 Try.f11 rfl rfl rfl rfl rfl rfl rfl ⟨rfl, rfl, rfl, rfl, rfl⟩ rfl rfl rfl rfl rfl (by kernel_rfl) Try.func11 (by kernel_rfl)
    (of_decide_eq_true (by kernel_rfl)) (by unfold Func.isWrapper; first | (rw [if_pos (by decide +kernel)]; kernel_rfl) | (rw [if_neg (by decide +kernel)]; exact ⟨rfl, rfl⟩))
    (fun os started H enc _ => lifted os started H enc)
end fnFamilyOk
end Go.Proofs.Ytlcgbmeneajfoaa
