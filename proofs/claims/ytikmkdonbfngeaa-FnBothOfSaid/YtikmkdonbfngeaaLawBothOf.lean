/- The law FnBothOf holds of every code: for both exchanged it is the same; all counts together are the product of those of both rows; and with the row of 1 alone it is the row. -/
import Derived.Test.YtikmkdonbfngeaaBytes
import Derived.Test.YtikmkdonbfngeaaDrawR
import Derived.Test.YtikmkdonbfngeaaChoose
import Derived.Test.YtikmkdonbfngeaaObj
namespace Go.Proofs.Ytikmkdonbfngeaa
open Go.RowKit
set_option maxRecDepth 100000

def psum (xs : List Int) (k : Nat) : Int := (xs.take k).sum
theorem psum_succ {xs : List Int} {k : Nat} (h : k < xs.length) : psum xs (k + 1) = psum xs k + xs.getD k 0 := by
  unfold psum
  rw [List.take_succ_eq_append_getElem h, List.sum_append]
  simp [List.getD, h]
theorem psum_all (xs : List Int) : psum xs xs.length = xs.sum := by unfold psum; rw [List.take_length]
theorem psum_le {xs : List Int} {M : Int} (h : ∀ x ∈ xs, 0 ≤ x ∧ x ≤ M) : ∀ k, k ≤ xs.length → 0 ≤ psum xs k ∧ psum xs k ≤ M * k
  | 0, _ => by simp [psum]
  | k + 1, hk => by
    have h1 := psum_le h k (by omega)
    have h2 := h _ (List.getElem_mem (show k < xs.length by omega))
    rw [psum_succ (by omega)]
    have h3 : xs.getD k 0 = xs[k] := by simp [List.getD, show k < xs.length by omega]
    have h4 : M * ((k + 1 : Nat) : Int) = M * k + M := by rw [Int.natCast_add, Int.mul_add]; simp
    rw [h3, h4]; omega
theorem togL_bound {xs ys : List Int} (ha : small xs) (hb : small ys) (hl : xs.length ≤ 5) : ∀ z ∈ togL xs ys, 0 ≤ z ∧ z ≤ 320 := by
  intro z hz
  rw [togL_small ha hb (by omega)] at hz
  simp only [rowL, List.mem_map] at hz
  obtain ⟨k, _, rfl⟩ := hz
  have := conv_bound xs ys k ha hb
  omega
theorem bothOk_iff {xs ys : List Int} : bothOkB xs ys = true ↔ (1 ≤ xs.length ∧ xs.length ≤ 30) ∧ 1 ≤ ys.length ∧ ys.length ≤ 30 := by
  simp only [bothOkB, Bool.and_eq_true, decide_eq_true_eq]

set_option maxHeartbeats 4000000 in
theorem bothOf_law (A : Option Addr) (cap l : Nat) (w : World) (hb : BytesIn w w.heap.size A l) (hc : l ≤ cap) :
    Calls Try.prog 11 #[.slice A l cap] w fun e w' => e = .returned (.bool true) ∧ Below w.heap.size w w' := by
  by_cases hbig : 1048576 < l
  · go_enter Try.func11, Try.ntmps11
    go_wp2
    go_returns
    exact ⟨rfl, Below.refl _ _⟩
  · have hl : l ≤ 1048576 := by omega
    clear hbig
    go_enter Try.func11, Try.ntmps11
    go_wp2_with fail
    refine (drawBothOf_any _ _ _ _ hb hl hc).mono ?_
    rintro e1 w1 ⟨A1, c1, xs, B1, d1, ys, rfl, ownA, ownB, sx, sy, lx, ly, BB1⟩
    have hI : ∀ (A B : Option Addr) (c d : Nat) (u : World), IntsIn u u.heap.size A xs → IntsIn u u.heap.size B ys → Calls Try.prog 34 #[.slice A xs.length c, .slice B ys.length d] u (GotInts u (bothL xs ys)) := fun A B c d u h1 h2 => bothOf_any A B c d xs ys u h1 h2 (by omega) (by omega)
    have hS : ∀ (A B : Option Addr) (c d : Nat) (u : World), IntsIn u u.heap.size A xs → IntsIn u u.heap.size B ys → Calls Try.prog 41 #[.slice A xs.length c, .slice B ys.length d] u (GotInts u (bothL xs ys)) := fun A B c d u h1 h2 => specBothOf_any A B c d xs ys u h1 h2
    have hX : ∀ (A B : Option Addr) (c d : Nat) (u : World), IntsIn u u.heap.size A xs → IntsIn u u.heap.size B ys → Calls Try.prog 34 #[.slice B ys.length d, .slice A xs.length c] u (GotInts u (bothL xs ys)) := fun A B c d u h1 h2 => by
      rw [← bothL_comm xs ys]; exact bothOf_any B A d c ys xs u h2 h1 (by omega) (by omega)
    have PA := RowAt.start ownA
    have PB := RowAt.start ownB
    have hw1 := BB1.size
    clear ownA ownB hb
    by_cases hok : bothOkB xs ys = true
    · have hk := bothOk_iff.1 hok
      have hz : bothL xs ys = togL xs ys := if_pos hok
      have hO : ∀ (A : Option Addr) (c : Nat) (g : Nat) (u : World), IntsIn u u.heap.size A xs → IntsIn u u.heap.size (some ⟨g, 0, none⟩) [1] → Calls Try.prog 34 #[.slice A xs.length c, .slice (some ⟨g, 0, none⟩) 1 1] u (GotInts u xs) := fun A c g u h1 h2 => by
        have := bothOf_any A (some ⟨g, 0, none⟩) c 1 xs [1] u h1 h2 (by omega) (by simp)
        have e : bothL xs [1] = xs := by
          unfold bothL
          rw [if_pos (bothOk_iff.2 ⟨hk.1, by simp⟩)]
          exact togL_one (fun x hx => by have := sx x hx; omega)
        rw [e] at this
        exact this
      have hzl : (togL xs ys).length = xs.length + ys.length - 1 := togL_length xs ys
      have hzb := togL_bound sx sy lx
      have hzs : (togL xs ys).sum = xs.sum * ys.sum := togL_sum sx sy (by omega)
      rw [hz] at hI hS hX
      generalize togL xs ys = zs at *
      clear hz hok
      have hx1 := psum_le sx xs.length (Nat.le_refl _)
      have hy1 := psum_le sy ys.length (Nat.le_refl _)
      have hz1 := psum_le hzb zs.length (Nat.le_refl _)
      rw [psum_all] at hx1 hy1 hz1
      have PX := Lib.hid (fun k (hk : k ≤ xs.length) => psum_le sx k hk)
      have PY := Lib.hid (fun k (hk : k ≤ ys.length) => psum_le sy k hk)
      have PZ := Lib.hid (fun k (hk : k ≤ zs.length) => psum_le hzb k hk)
      have QX := Lib.hid (psum_all xs)
      have QY := Lib.hid (psum_all ys)
      have QZ := Lib.hid (psum_all zs)
      obtain ⟨X, hXs⟩ : ∃ X, xs.sum = X := ⟨_, rfl⟩
      obtain ⟨Y, hYs⟩ : ∃ Y, ys.sum = Y := ⟨_, rfl⟩
      obtain ⟨Z, hZs⟩ : ∃ Z, zs.sum = Z := ⟨_, rfl⟩
      rw [hXs, hYs, hZs] at hzs
      rw [hXs] at hx1 QX
      rw [hYs] at hy1 QY
      rw [hZs] at hz1 QZ
      have hxy : IntKind.i64.wrap (X * Y) = Z := by rw [← hzs]; exact IntWalk.i64_in _ (by omega)
      have HXY := Lib.hid hxy
      have hx0 := hx1
      have HI := Lib.hid hI
      have HS := Lib.hid hS
      have HX := Lib.hid hX
      have HO := Lib.hid hO
      clear hI hS hX hO hzs hXs hYs hZs hzb sx sy hx0
      have hzl2 : zs.length ≤ 1048576 := by omega
      have hzl3 : zs.length ≤ 40 := by omega
      have hzl4 : 1 ≤ zs.length := by omega
      clear hzl
      have hxl2 : xs.length ≤ 1048576 := by omega
      go_wp2_with fail
      refine (HI.out _ _ _ _ _ PA.ints PB.ints).mono ?_
      rintro e2 w2 ⟨A2, c2, rfl, own2, hb2⟩
      have BB2 := BB1.trans (hb2.mono BB1.size)
      have PA2 := PA.next hb2
      have PB2 := PB.next hb2
      have PZ2 := RowAt.start own2
      clear PA PB own2 hb2 BB1
      go_wp2_with fail
      refine (HS.out _ _ _ _ _ PA2.ints PB2.ints).mono ?_
      rintro e3 w3 ⟨A3, c3, rfl, own3, hb3⟩
      have BB3 := BB2.trans (hb3.mono BB2.size)
      have PA3 := PA2.next hb3
      have PB3 := PB2.next hb3
      have PZ3 := PZ2.next hb3
      clear PA2 PB2 PZ2 hb3 BB2
      go_wp2_with fail
      refine (sameInts_self _ _ _ _ _ _ _ PZ3.ints own3.ints rfl hzl2).mono ?_
      rintro e4 w4 ⟨rfl, hb4⟩
      have BB4 := BB3.trans (hb4.mono BB3.size)
      have PA4 := PA3.next hb4
      have PB4 := PB3.next hb4
      have PZ4 := PZ3.next hb4
      clear PA3 PB3 PZ3 hb4 BB3 own3
      go_wp2_with fail
      go_loop [6, 9] (fun s t => ∃ k : Nat, k ≤ xs.length ∧ t = .int .i64 (k : Nat) ∧ s = .int .i64 (psum xs k)) (fun _ t => xs.length - (intOf t).toNat)
      case atStart => exact ⟨0, by omega, rfl, by simp [psum]⟩
      case round =>
        obtain ⟨k, hk, rfl, rfl⟩ := hrel
        by_cases hlt : k < xs.length
        · obtain ⟨b, off, hA, hbb, g1⟩ := PA4.ints k _ (getD_some hlt)
          subst hA
          have h1 := PX.out k (by omega)
          have h2 := PX.out (k + 1) (by omega)
          have HS : Hid (psum xs (k + 1) = psum xs k + xs.getD k 0) := psum_succ hlt
          rw [HS.out] at h2
          have h3 : 0 ≤ psum xs k + xs.getD k 0 ∧ psum xs k + xs.getD k 0 ≤ 100000 := by omega
          have ws : IntKind.i64.wrap (psum xs k + xs.getD k 0) = psum xs k + xs.getD k 0 := IntWalk.i64_in _ (by omega)
          clear h1 h2
          generalize psum xs k = p at *
          generalize xs.getD k 0 = y at *
          go_wp2_with fail
          go_round
          case rel => exact ⟨k + 1, by omega, by go_num, by rw [HS.out]⟩
          case measure => simp [intOf]; omega
        · obtain rfl : k = xs.length := by omega
          rw [QX.out]
          go_wp2_with fail
          go_loop [7, 10] (fun s t => ∃ k : Nat, k ≤ ys.length ∧ t = .int .i64 (k : Nat) ∧ s = .int .i64 (psum ys k)) (fun _ t => ys.length - (intOf t).toNat)
          case atStart => exact ⟨0, by omega, rfl, by simp [psum]⟩
          case round =>
            obtain ⟨k, hk, rfl, rfl⟩ := hrel
            by_cases hlt : k < ys.length
            · obtain ⟨b, off, hA, hbb, g1⟩ := PB4.ints k _ (getD_some hlt)
              subst hA
              have h1 := PY.out k (by omega)
              have h2 := PY.out (k + 1) (by omega)
              have HS : Hid (psum ys (k + 1) = psum ys k + ys.getD k 0) := psum_succ hlt
              rw [HS.out] at h2
              have h3 : 0 ≤ psum ys k + ys.getD k 0 ∧ psum ys k + ys.getD k 0 ≤ 100000 := by omega
              have ws : IntKind.i64.wrap (psum ys k + ys.getD k 0) = psum ys k + ys.getD k 0 := IntWalk.i64_in _ (by omega)
              clear h1 h2
              generalize psum ys k = p at *
              generalize ys.getD k 0 = y at *
              go_wp2_with fail
              go_round
              case rel => exact ⟨k + 1, by omega, by go_num, by rw [HS.out]⟩
              case measure => simp [intOf]; omega
            · obtain rfl : k = ys.length := by omega
              rw [QY.out]
              go_wp2_with fail
              go_loop [8, 11] (fun s t => ∃ k : Nat, k ≤ zs.length ∧ t = .int .i64 (k : Nat) ∧ s = .int .i64 (psum zs k)) (fun _ t => zs.length - (intOf t).toNat)
              case atStart => exact ⟨0, by omega, rfl, by simp [psum]⟩
              case round =>
                obtain ⟨k, hk, rfl, rfl⟩ := hrel
                by_cases hlt : k < zs.length
                · obtain ⟨b, off, hA, hbb, g1⟩ := PZ4.ints k _ (getD_some hlt)
                  subst hA
                  have h1 := PZ.out k (by omega)
                  have h2 := PZ.out (k + 1) (by omega)
                  have HS : Hid (psum zs (k + 1) = psum zs k + zs.getD k 0) := psum_succ hlt
                  rw [HS.out] at h2
                  have h3 : 0 ≤ psum zs k + zs.getD k 0 ∧ psum zs k + zs.getD k 0 ≤ 100000 := by omega
                  have ws : IntKind.i64.wrap (psum zs k + zs.getD k 0) = psum zs k + zs.getD k 0 := IntWalk.i64_in _ (by omega)
                  clear h1 h2
                  generalize psum zs k = p at *
                  generalize zs.getD k 0 = y at *
                  go_wp2_with fail
                  go_round
                  case rel => exact ⟨k + 1, by omega, by go_num, by rw [HS.out]⟩
                  case measure => simp [intOf]; omega
                · obtain rfl : k = zs.length := by omega
                  rw [QZ.out]
                  go_wp2_with fail
                  refine (HX.out _ _ _ _ _ PA4.ints PB4.ints).mono ?_
                  rintro e5 w5 ⟨A5, c5, rfl, own5, hb5⟩
                  have BB5 := BB4.trans (hb5.mono BB4.size)
                  have PA5 := PA4.next hb5
                  have PZ5 := PZ4.next hb5
                  clear PA4 PB4 PZ4 hb5 BB4
                  go_wp2_with fail
                  refine (sameInts_self _ _ _ _ _ _ _ own5.ints PZ5.ints rfl hzl2).mono ?_
                  rintro e6 w6 ⟨rfl, hb6⟩
                  have BB6 := BB5.trans (hb6.mono BB5.size)
                  have PA6 := PA5.next hb6
                  clear PA5 PZ5 hb6 BB5 own5
                  have hxy' := HXY.out
                  have k1 := (Below.refl w6.heap.size w6).alloc (Nat.le_refl _) (.cells #[.int .i64 1] 3)
                  have own7 := OwnI.one w6 (base := w6.heap.size) 1 (Nat.le_refl _)
                  have PA7 := PA6.next k1
                  have BB7 := BB6.trans (k1.mono BB6.size)
                  clear PA6 BB6 k1
                  go_wp2_with fail
                  refine (HO.out _ _ _ _ PA7.ints own7.ints).mono ?_
                  rintro e8 w8 ⟨A8, c8, rfl, own8, hb8⟩
                  have BB8 := BB7.trans (hb8.mono BB7.size)
                  have PA8 := PA7.next hb8
                  clear PA7 hb8 BB7 own7
                  go_wp2_with fail
                  refine (sameInts_self _ _ _ _ _ _ _ own8.ints PA8.ints rfl hxl2).mono ?_
                  rintro e9 w9 ⟨rfl, hb9⟩
                  have BB9 := BB8.trans (hb9.mono BB8.size)
                  go_wp2_with fail
                  go_returns
                  exact ⟨rfl, BB9⟩
    · have hz : bothL xs ys = [] := if_neg hok
      rw [hz] at hI hS
      have HI := Lib.hid hI
      have HS := Lib.hid hS
      clear hI hS hX hz hok
      go_wp2_with fail
      refine (HI.out _ _ _ _ _ PA.ints PB.ints).mono ?_
      rintro e2 w2 ⟨A2, c2, rfl, own2, hb2⟩
      have BB2 := BB1.trans (hb2.mono BB1.size)
      have PA2 := PA.next hb2
      have PB2 := PB.next hb2
      have PZ2 := RowAt.start own2
      clear PA PB own2 hb2
      go_wp2_with fail
      refine (HS.out _ _ _ _ _ PA2.ints PB2.ints).mono ?_
      rintro e3 w3 ⟨A3, c3, rfl, own3, hb3⟩
      have BB3 := BB2.trans (hb3.mono BB2.size)
      have PZ3 := PZ2.next hb3
      clear PA2 PB2 PZ2 hb3
      go_wp2_with fail
      refine (sameInts_self _ _ _ _ _ _ _ PZ3.ints own3.ints rfl (by simp)).mono ?_
      rintro e4 w4 ⟨rfl, hb4⟩
      have BB4 := BB3.trans (hb4.mono BB3.size)
      go_wp2_with fail
      refine (alive_any _).mono ?_
      rintro e5 w5 ⟨rfl, hb5⟩
      have BB5 := BB4.trans (hb5.mono BB4.size)
      go_wp2_with fail
      go_returns
      exact ⟨rfl, BB5⟩

namespace fnBothOf
open Go.ChangeShapes Go.WideShapes Go.ChangeAt Go.RowKit Go.Deep Go.Joins
set_option linter.unusedVariables false
set_option maxRecDepth 100000 in
theorem lifted (os : Os) (started : os.Started) (H : Type) (enc : TypeId × Value → H) :
    ReturnsInHanded {} Try.checked os 11 .any (Rows.fnBothOfSpec.pre6 enc Try.prog Try.f11 Rows.fnBothOfRow.domain false) (Rows.fnBothOfSpec.post enc Try.prog Try.f11 false true false false) := by
  refine returnsInHanded_of_change (C := Try.checked) own started (by kernel_rfl) Try.func11
    (ChangeSpec.witness6 (enc := enc) (C := Try.checked) false ⟨#[], #[.slice none 0 0], []⟩ 8 (by kernel_rfl) (by kernel_rfl) (by kernel_rfl) (by kernel_rfl)) ?_
  intro W base args ds gs before hval0 hW hcnd _
  have hval : ∀ (j : Nat) t v, Try.f11.params[j]? = some t → args[j]? = some v → Value.okWide Try.prog W .any base t v := hval0
  have hW' := hW
  obtain ⟨p, q, hA0, hV, rfl, hfz, hnd⟩ := hW
  have hA : DataW.TrodAll enc Try.prog W 0 (fun _ => true) true Try.f11.params.toList args.toList ds p := hA0
  rw [Try.params11] at hA hval
  obtain ⟨v0, vs0, d0, ds0, p0, q0, hargs, rfl, rfl, h0, r0⟩ := trodAll_cons hA
  obtain ⟨rfl, rfl, rfl⟩ := trodAll_nil r0
  obtain rfl : args = #[v0] := by cases args; simp_all
  obtain ⟨rfl, rfl⟩ := trodVars_none hV
  have k0 := h0
  have lt0 : ∀ x ∈ p0, x.block < W.heap.size := by obtain ⟨m, hm⟩ := k0; exact DataW.trod_lt m _ _ _ hm
  obtain ⟨A0, c0, bs0, rfl, hb0, hl0⟩ := open_bytes (hval 0 22 v0 rfl rfl) h0
  clear hA0 hval0
  refine (bothOf_law A0 c0 bs0 W hb0 hl0).mono fun e W' ⟨he, bel⟩ => ?_
  subst he
  exact ⟨_, rfl, _, _, _, [], _, [], hW', trodAll_mk1 (shut_bool Try.underlying4 _), (trodAll_cons_mk (Below.trod laidOut (by kernel_rfl) (of_decide_eq_true (by kernel_rfl)) k0 bel lt0) trodAll_mk0), rfl, bel.frame _, fun h => by cases h⟩

theorem holds : Rows.FnBothOfSaid :=
  OpenClaim.holds_of_wide 11 Try.f11 rfl rfl rfl rfl rfl rfl rfl ⟨rfl, rfl, rfl, rfl, rfl⟩ rfl rfl rfl rfl rfl (by kernel_rfl) Try.func11 (by kernel_rfl)
    (of_decide_eq_true (by kernel_rfl)) (by unfold Func.isWrapper; first | (rw [if_pos (by decide +kernel)]; kernel_rfl) | (rw [if_neg (by decide +kernel)]; exact ⟨rfl, rfl⟩))
    (fun os started H enc _ => lifted os started H enc)
end fnBothOf

end Go.Proofs.Ytikmkdonbfngeaa
