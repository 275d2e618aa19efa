/- The law FnWaysOf holds of every code: without any part it is the first count, with all parts the last one, each times all taken as often as there are things; and of the counts from the last one to the first one it is the same with the parts that are left. -/
import Derived.Test.YtaplmlbpleilfaaBytes
import Derived.Test.YtaplmlbpleilfaaDraw5
import Derived.Test.YtaplmlbpleilfaaSpec5
import Derived.Test.YtaplmlbpleilfaaImpl5
import Derived.Test.YtaplmlbpleilfaaObj
import Derived.Test.YtaplmlbpleilfaaClass
import Derived.Deep.AppendLies
namespace Go.Proofs.Ytaplmlbpleilfaa
open Go.RowKit
set_option maxRecDepth 100000

theorem rev_more {xs : List Int} {l j : Nat} (hl : xs.length = l + 1) (hj : j < l + 1) : xs.reverse.take j ++ [xs.getD (l - j) 0] = xs.reverse.take (j + 1) := by
  have h1 : j < xs.reverse.length := by simpa [hl] using hj
  rw [List.take_add_one, List.getElem?_eq_getElem h1, List.getElem_reverse]
  have h2 : l - j < xs.length := by omega
  congr 1
  simp only [hl, Option.toList_some, List.cons.injEq, and_true]
  rw [List.getD, List.getElem?_eq_getElem h2, Option.getD_some]
  congr 1
theorem min_next {M j l : Nat} (h : j < l) : M ^ min (j + 1) l = M ^ min j l * M := by
  rw [Nat.min_eq_left (by omega), Nat.min_eq_left (by omega), Nat.pow_succ]

set_option maxHeartbeats 4000000 in
theorem waysOf_law (A : Option Addr) (cap l : Nat) (w : World) (hb : BytesIn w w.heap.size A l) (hc : l ≤ cap) :
    Calls Try.prog 5 #[.slice A l cap] w fun e w' => e = .returned (.bool true) ∧ Below w.heap.size w w' := by
  obtain ⟨i0, hi0, hz0, hz1, hz2⟩ := info_parts int_info
  by_cases hbig : 1048576 < l
  · go_enter Try.func5, Try.ntmps5
    go_wp2
    go_returns
    exact ⟨rfl, Below.refl _ _⟩
  · have hl : l ≤ 1048576 := by omega
    clear hbig
    go_enter Try.func5, Try.ntmps5
    go_wp2_with fail
    refine (drawWaysOf_any _ _ _ _ hb hl hc).mono ?_
    rintro e1 w1 ⟨A1, c, xs, p, m, rfl, own, hsm, hlen, p0, p1, m0, m1, hb1⟩
    by_cases hok : waysB xs p m = true
    · obtain ⟨hch, hm, hx⟩ := waysB_iff.1 hok
      have hch' := chanceB_iff.1 hch
      obtain ⟨k, hk⟩ : ∃ k, xs.length = k + 1 := ⟨xs.length - 1, by omega⟩
      obtain ⟨M, rfl⟩ : ∃ M : Nat, m = M := ⟨m.toNat, by omega⟩
      obtain ⟨g, rfl⟩ : ∃ g, A1 = some ⟨g, 0, none⟩ := by
        rcases own.form with ⟨_, h0⟩ | ⟨g, cap, hv, _, _⟩
        · rw [h0] at hk; simp at hk
        · injection hv with hA
          exact ⟨g, hA⟩
      have hI : ∀ u, IntsIn u u.heap.size (some ⟨g, 0, none⟩) xs → Calls Try.prog 18 #[.slice (some ⟨g, 0, none⟩) (k + 1) c, .int .i64 p, .int .i64 M] u fun e w' => e = .returned (.int .i64 (waysI xs p M)) ∧ Below u.heap.size u w' := fun u h => by
        have := waysOf_any p M (some ⟨g, 0, none⟩) c xs u h (by omega)
        rw [hk] at this; exact this
      have hS : ∀ u, IntsIn u u.heap.size (some ⟨g, 0, none⟩) xs → Calls Try.prog 19 #[.slice (some ⟨g, 0, none⟩) (k + 1) c, .int .i64 p, .int .i64 M] u fun e w' => e = .returned (.int .i64 (waysI xs p M)) ∧ Below u.heap.size u w' := fun u h => by
        have := specWays_any p M (some ⟨g, 0, none⟩) c xs u h (by omega)
        rw [hk] at this; exact this
      have x0 := hx 0 (by omega)
      have xk := hx k (by omega)
      obtain ⟨X0, hX0⟩ : ∃ X : Nat, xs.getD 0 0 = X := ⟨(xs.getD 0 0).toNat, by omega⟩
      obtain ⟨Xk, hXk⟩ : ∃ X : Nat, xs.getD k 0 = X := ⟨(xs.getD k 0).toNat, by omega⟩
      have hYb : M ^ k ≤ 1953125 := pw_bound (by omega) (by omega)
      have hN0 : ∀ u, IntsIn u u.heap.size (some ⟨g, 0, none⟩) xs → Calls Try.prog 18 #[.slice (some ⟨g, 0, none⟩) (k + 1) c, .int .i64 0, .int .i64 M] u fun e w' => e = .returned (.int .i64 ((X0 * M ^ k : Nat) : Int)) ∧ Below u.heap.size u w' := fun u h => by
        have := waysOf_any 0 M (some ⟨g, 0, none⟩) c xs u h (by omega)
        rw [waysI_none hok, hk, Nat.add_sub_cancel, cN, hX0] at this; exact this
      have hNk : ∀ u, IntsIn u u.heap.size (some ⟨g, 0, none⟩) xs → Calls Try.prog 18 #[.slice (some ⟨g, 0, none⟩) (k + 1) c, .int .i64 M, .int .i64 M] u fun e w' => e = .returned (.int .i64 ((Xk * M ^ k : Nat) : Int)) ∧ Below u.heap.size u w' := fun u h => by
        have := waysOf_any M M (some ⟨g, 0, none⟩) c xs u h (by omega)
        rw [waysI_full hok, hk, Nat.add_sub_cancel, cN, hXk] at this; exact this
      have hR : ∀ (B : Option Addr) (d : Nat) (u : World), IntsIn u u.heap.size B xs.reverse → Calls Try.prog 18 #[.slice B (k + 1) d, .int .i64 (M - p), .int .i64 M] u fun e w' => e = .returned (.int .i64 (waysI xs p M)) ∧ Below u.heap.size u w' := fun B d u h => by
        have := waysOf_any (M - p) M B d xs.reverse u h (by simp; omega)
        rw [waysI_rev hok, List.length_reverse, hk] at this; exact this
      have v0 := waysI_low xs p M
      have v1 : waysI xs p M ≠ -1 := by rw [waysI, if_pos hok]; omega
      generalize waysI xs p M = V at *
      have hM5 : M ≤ 5 := by omega
      have hk9 : k ≤ 9 := by omega
      have O1 := RowAt.start own
      rw [hk] at O1
      have BB1 := hb1
      have HI := Lib.hid hI
      have HS := Lib.hid hS
      have HN0 := Lib.hid hN0
      have HNk := Lib.hid hNk
      have HR := Lib.hid hR
      have HX0 := Lib.hid hX0
      have HXk := Lib.hid hXk
      have HK := Lib.hid hk
      have HLB := Lib.hid hYb
      have d0 : ¬ V < 0 := by omega
      have X01 : X0 ≤ 1000 := by omega
      have Xk1 : Xk ≤ 1000 := by omega
      have wmp : IntKind.i64.wrap ((M : Int) - p) = (M : Int) - p := IntWalk.i64_in _ (by omega)
      have wl : IntKind.i64.wrap ((k : Int) + 1 - 1) = (k : Int) := by rw [IntWalk.i64_in _ (by omega)]; omega
      rw [hk]
      clear hI hS hN0 hNk hR hX0 hXk hk own hok hch hm hx hch' x0 xk hYb v0 v1 hsm hlen hb1 hb
      go_wp2_with fail
      refine (HI.out _ O1.ints).mono ?_
      rintro e2 w2 ⟨rfl, hb2⟩
      have O2 := O1.next hb2
      have BB2 := BB1.trans (hb2.mono BB1.size)
      clear O1 BB1 hb2
      go_wp2_with fail
      refine (HS.out _ O2.ints).mono ?_
      rintro e3 w3 ⟨rfl, hb3⟩
      have O3 := O2.next hb3
      have BB3 := BB2.trans (hb3.mono BB2.size)
      clear O2 BB2 hb3
      have hbx := (Below.refl w3.heap.size w3).alloc (Nat.le_refl _) (.cells #[] 3)
      have O4 := O3.next hbx
      have BB4 := BB3.trans (hbx.mono BB3.size)
      have R4 : OwnI (w3.alloc (.cells #[] 3)) w3.heap.size (.slice (some ⟨w3.heap.size, 0, none⟩) 0 0) (xs.reverse.take 0) := OwnI.box w3 [] (Nat.le_refl _) (by simp)
      have hT := O3.le
      generalize w1.heap.size = hi at *
      have BS := BB3.size
      clear O3 BB3 hbx
      go_wp2_with fail
      go_loopw [7, 8, 9] (fun a v t wr => ∃ (B : Option Addr) (d j Y : Nat), j ≤ k + 1 ∧ t = .int .i64 ((k : Int) - (j : Nat)) ∧ v = .slice B j d ∧ a = .int .i64 (Y : Nat) ∧ Hid (M ^ min j k = Y) ∧ Y ≤ 1953125 ∧
        RowAt wr w.heap.size hi (.slice (some ⟨g, 0, none⟩) (k + 1) c) xs ∧ OwnI wr w3.heap.size (.slice B j d) (xs.reverse.take j) ∧ Below w.heap.size w wr ∧ w3.heap.size ≤ wr.heap.size) (fun _ _ t _ => (intOf t + 1).toNat)
      case atStart => exact ⟨some ⟨w3.heap.size, 0, none⟩, 0, 0, 1, by omega, by first | rfl | (congr 1; omega), rfl, rfl, by rw [Hid, Nat.zero_min, Nat.pow_zero], by omega, O4, R4, BB4, by simp⟩
      case round =>
        clear O4 R4 BB4
        obtain ⟨B, d, j, Y, hj, rfl, rfl, rfl, HY, hY, O, R, BB, hsz⟩ := hrel
        generalize hT3 : w3.heap.size = T at *
        by_cases hlt : j < k + 1
        · have hkj : (k : Int) - (j : Int) = ((k - j : Nat) : Int) := by omega
          have cell := O.cell (show k - j < k + 1 by omega)
          have hnx := Lib.hid (rev_more HK.out hlt)
          have hlt1 : (xs.reverse.take j).length = j := by have := HK.out; simp; omega
          have hlt2 : (xs.reverse.take (j + 1)).length = j + 1 := by have := HK.out; simp; omega
          have ix : ((k - j : Nat) : Int) < (k : Int) + 1 := by omega
          have HO : Hid (wr.ownsRow T 3 1 (.slice B j d) j (ints (xs.reverse.take j))) := by
            have h := R
            unfold OwnI at h
            rw [hlt1] at h; exact h
          obtain ⟨q, hq⟩ : ∃ q, k - j = q := ⟨_, rfl⟩
          rw [hkj]
          have hRg := R.ge
          have hG : ∀ j', (Value.slice B j d).ownBlock = some j' → j' < w.heap.size ∨ hi ≤ j' := fun j' e => .inr (by have := hRg j' e; omega)
          generalize xs.getD (k - j) 0 = x at *
          rw [hq] at cell ix ⊢
          have wd : IntKind.i64.wrap ((q : Int) - 1) = (q : Int) - 1 := IntWalk.i64_in _ (by omega)
          have iq : (0 : Int) ≤ (q : Int) := by omega
          by_cases hz : j < k
          · have d1 : (0 : Int) < (q : Int) := by omega
            have hYM : Hid (M ^ min (j + 1) k = Y * M) := by rw [Hid, min_next hz, HY.out]
            have hYb : Y * M ≤ 1953125 := by rw [← hYM.out]; exact pw_bound hM5 (by omega)
            have wY : IntKind.i64.wrap ((Y : Int) * (M : Int)) = ((Y * M : Nat) : Int) := by rw [← Int.natCast_mul]; exact IntWalk.i64_in _ (by omega)
            generalize Y * M = Y' at *
            go_wp2_with (at_builtin; (refine wpList_append_lies _ rfl (.tmp 44) (.tmp 49) 28 rfl T 3 i0 _ 1 8 Try.underlying28 hi0 hz0 hz1 hz2 rfl (by omega) (.slice B j d) j (ints (xs.reverse.take j)) rfl (World.ownsRow.alloc HO.out _) ⟨wr.heap.size, 0, none⟩ 1 1 [.int .i64 x] rfl rfl (World.news_of_block (cs := #[.int .i64 x]) (t := 3) (fr := (0, 0)) (heap_alloc_new _ _)) (by simp [Value.oneCell']) (by omega) (by simp [maxLen]; omega) (by omega) (by simp; omega) _ rfl ?_); intro gg cc w5 hown5 hgrow hat hlt5)
            have hgb := grown_box hgrow
            have O5 := O.grown hgb hG
            have R5 : OwnI w5 T (.slice (some ⟨gg, 0, none⟩) (j + 1) cc) (xs.reverse.take (j + 1)) := by
              rw [← hnx.out]
              unfold OwnI
              rw [ints_append, List.length_append, hlt1]; exact hown5
            have BB5 : Below w.heap.size w w5 := BB.trans ⟨hgb.os, hgb.tape, hgb.output, hgb.size, fun j' hj' => hgb.block j' (by have := BB.size; omega) (fun e => by have := hRg j' e.symm; omega)⟩
            have S5 : T ≤ w5.heap.size := Nat.le_trans hsz hgb.size
            clear hgb hgrow hat hlt5 hown5 HO hRg hG O R BB cell HY
            go_roundw
            case rel => exact ⟨some ⟨gg, 0, none⟩, cc, j + 1, Y', by omega, by first | rfl | (congr 1; omega), rfl, by go_num, hYM.out, hYb, O5, R5, BB5, S5⟩
            case measure => simp [intOf]; try omega
          · obtain rfl : j = k := by omega
            have hq0 : q = 0 := by omega
            subst hq0
            have hYM : Hid (M ^ min (j + 1) j = Y) := by rw [← HY.out, Hid, Nat.min_eq_right (by omega), Nat.min_self]
            go_wp2_with (at_builtin; (refine wpList_append_lies _ rfl (.tmp 44) (.tmp 49) 28 rfl T 3 i0 _ 1 8 Try.underlying28 hi0 hz0 hz1 hz2 rfl (by omega) (.slice B j d) j (ints (xs.reverse.take j)) rfl (World.ownsRow.alloc HO.out _) ⟨wr.heap.size, 0, none⟩ 1 1 [.int .i64 x] rfl rfl (World.news_of_block (cs := #[.int .i64 x]) (t := 3) (fr := (0, 0)) (heap_alloc_new _ _)) (by simp [Value.oneCell']) (by omega) (by simp [maxLen]; omega) (by omega) (by simp; omega) _ rfl ?_); intro gg cc w5 hown5 hgrow hat hlt5)
            have hgb := grown_box hgrow
            have O5 := O.grown hgb hG
            have R5 : OwnI w5 T (.slice (some ⟨gg, 0, none⟩) (j + 1) cc) (xs.reverse.take (j + 1)) := by
              rw [← hnx.out]
              unfold OwnI
              rw [ints_append, List.length_append, hlt1]; exact hown5
            have BB5 : Below w.heap.size w w5 := BB.trans ⟨hgb.os, hgb.tape, hgb.output, hgb.size, fun j' hj' => hgb.block j' (by have := BB.size; omega) (fun e => by have := hRg j' e.symm; omega)⟩
            have S5 : T ≤ w5.heap.size := Nat.le_trans hsz hgb.size
            clear hgb hgrow hat hlt5 hown5 HO hRg hG O R BB cell HY
            go_roundw
            case rel => exact ⟨some ⟨gg, 0, none⟩, cc, j + 1, Y, by omega, by first | rfl | (congr 1; omega), rfl, by go_num, hYM.out, hY, O5, R5, BB5, S5⟩
            case measure => simp [intOf]; try omega
        · obtain rfl : j = k + 1 := by omega
          have hkk : (k : Int) - ((k + 1 : Nat) : Int) = -1 := by omega
          have hYk : M ^ k = Y := by rw [← HY.out, Nat.min_eq_right (by omega)]
          have hrt : xs.reverse.take (k + 1) = xs.reverse := List.take_of_length_le (by have := HK.out; simp; omega)
          have hN0 := HN0.out
          have hNk := HNk.out
          rw [hYk] at hN0 hNk
          rw [hrt] at R
          rw [hkk]
          have z0 : X0 * Y ≤ 1000 * 1953125 := Nat.mul_le_mul X01 hY
          have zk : Xk * Y ≤ 1000 * 1953125 := Nat.mul_le_mul Xk1 hY
          have w0 : IntKind.i64.wrap ((X0 : Int) * (Y : Int)) = ((X0 * Y : Nat) : Int) := by rw [← Int.natCast_mul]; exact IntWalk.i64_in _ (by omega)
          have wk : IntKind.i64.wrap ((Xk : Int) * (Y : Int)) = ((Xk * Y : Nat) : Int) := by rw [← Int.natCast_mul]; exact IntWalk.i64_in _ (by omega)
          have HN0' := Lib.hid hN0
          have HNk' := Lib.hid hNk
          clear hN0 hNk hYk hrt HY HLB HN0 HNk hkk
          generalize X0 * Y = Z0 at *
          generalize Xk * Y = Zk at *
          have R1 : RowAt wr T wr.heap.size (.slice B (k + 1) d) xs.reverse := RowAt.start R
          generalize wr.heap.size = hi2 at R1 hsz
          clear R
          go_wp2_with fail
          refine wp_region_class (fun u => RowAt u w.heap.size hi (.slice (some ⟨g, 0, none⟩) (k + 1) c) xs ∧ RowAt u T hi2 (.slice B (k + 1) d) xs.reverse ∧ Below w.heap.size w u) (by kernel_rfl) (by kernel_rfl) ⟨O.step ((Below.refl wr.heap.size wr).drew) O.le, R1.step ((Below.refl wr.heap.size wr).drew) R1.le, BB.drew⟩ ?_
          intro X hX f hf hex
          have k0 : ∀ x, (f x).cell? ⟨g, 0, none⟩ = some (.int .i64 X0) := fun x => by rw [← HX0.out]; exact (hf x).1.cell (by omega)
          have k1 : ∀ x, (f x).cell? ⟨g, k, none⟩ = some (.int .i64 Xk) := fun x => by rw [← HXk.out]; exact (hf x).1.cell (by omega)
          have hon : ∀ x w', Below (f x).heap.size (f x) w' → RowAt w' w.heap.size hi (.slice (some ⟨g, 0, none⟩) (k + 1) c) xs ∧ RowAt w' T hi2 (.slice B (k + 1) d) xs.reverse ∧ Below w.heap.size w w' := fun x w' hb =>
            ⟨(hf x).1.next hb, (hf x).2.1.next hb, (hf x).2.2.trans (hb.mono (hf x).2.2.size)⟩
          have ik : (k : Int) < (k : Int) + 1 := by omega
          have i0' : (0 : Int) < (k : Int) + 1 := by omega
          repeat (go_big_quiet_step (first
            | (go_at_call 18; with_reducible exact class_of hex (HN0'.out _ (hf _).1.ints) (hon _))
            | (go_at_call 18; with_reducible exact class_of hex (HNk'.out _ (hf _).1.ints) (hon _))
            | (go_at_call 18; with_reducible exact class_of hex (HR.out _ _ _ (hf _).2.1.ints) (hon _))))
          refine wpQuiet_nil ?_
          rintro _ ⟨x, rfl⟩
          obtain ⟨-, -, BB9⟩ := hf x
          go_wp2_with fail
          go_returns
          exact ⟨rfl, BB9⟩
    · have hV : waysI xs p m = -1 := if_neg hok
      have HI : Hid (∀ u, IntsIn u u.heap.size A1 xs → Calls Try.prog 18 #[.slice A1 xs.length c, .int .i64 p, .int .i64 m] u fun e w' => e = .returned (.int .i64 (-1)) ∧ Below u.heap.size u w') := fun u h => by
        have := waysOf_any p m A1 c xs u h (by omega)
        rw [hV] at this; exact this
      have HS : Hid (∀ u, IntsIn u u.heap.size A1 xs → Calls Try.prog 19 #[.slice A1 xs.length c, .int .i64 p, .int .i64 m] u fun e w' => e = .returned (.int .i64 (-1)) ∧ Below u.heap.size u w') := fun u h => by
        have := specWays_any p m A1 c xs u h (by omega)
        rw [hV] at this; exact this
      have O1 := RowAt.start own
      have BB1 := hb1
      clear hV hok own hb1 hb
      go_wp2_with fail
      refine (HI.out _ O1.ints).mono ?_
      rintro e2 w2 ⟨rfl, hb2⟩
      have O2 := O1.next hb2
      have BB2 := BB1.trans (hb2.mono BB1.size)
      clear O1 BB1 hb2
      go_wp2_with fail
      refine (HS.out _ O2.ints).mono ?_
      rintro e3 w3 ⟨rfl, hb3⟩
      have BB3 := BB2.trans (hb3.mono BB2.size)
      go_wp2_with fail
      refine (alive_any _).mono ?_
      rintro e4 w4 ⟨rfl, hb4⟩
      have BB4 := BB3.trans (hb4.mono BB3.size)
      go_wp2_with fail
      go_returns
      exact ⟨rfl, BB4⟩

namespace fnWaysOf
open Go.ChangeShapes Go.WideShapes Go.ChangeAt Go.RowKit Go.Deep Go.Joins
set_option linter.unusedVariables false
set_option maxRecDepth 100000 in
theorem lifted (os : Os) (started : os.Started) (H : Type) (enc : TypeId × Value → H) :
    ReturnsInHanded {} Try.checked os 5 .any (Rows.fnWaysOfSpec.pre6 enc Try.prog Try.f5 Rows.fnWaysOfRow.domain false) (Rows.fnWaysOfSpec.post enc Try.prog Try.f5 false true false false) := by
  refine returnsInHanded_of_change (C := Try.checked) own started (by kernel_rfl) Try.func5
    (ChangeSpec.witness6 (enc := enc) (C := Try.checked) false ⟨#[], #[.slice none 0 0], []⟩ 8 (by kernel_rfl) (by kernel_rfl) (by kernel_rfl) (by kernel_rfl)) ?_
  intro W base args ds gs before hval0 hW hcnd _
  have hval : ∀ (j : Nat) t v, Try.f5.params[j]? = some t → args[j]? = some v → Value.okWide Try.prog W .any base t v := hval0
  have hW' := hW
  obtain ⟨p, q, hA0, hV, rfl, hfz, hnd⟩ := hW
  have hA : DataW.TrodAll enc Try.prog W 0 (fun _ => true) true Try.f5.params.toList args.toList ds p := hA0
  rw [Try.params5] at hA hval
  obtain ⟨v0, vs0, d0, ds0, p0, q0, hargs, rfl, rfl, h0, r0⟩ := trodAll_cons hA
  obtain ⟨rfl, rfl, rfl⟩ := trodAll_nil r0
  obtain rfl : args = #[v0] := by cases args; simp_all
  obtain ⟨rfl, rfl⟩ := trodVars_none hV
  have k0 := h0
  have lt0 : ∀ x ∈ p0, x.block < W.heap.size := by obtain ⟨m, hm⟩ := k0; exact DataW.trod_lt m _ _ _ hm
  obtain ⟨A0, c0, bs0, rfl, hb0, hl0⟩ := open_bytes (hval 0 22 v0 rfl rfl) h0
  clear hA0 hval0
  refine (waysOf_law A0 c0 bs0 W hb0 hl0).mono fun e W' ⟨he, bel⟩ => ?_
  subst he
  exact ⟨_, rfl, _, _, _, [], _, [], hW', trodAll_mk1 (shut_bool Try.underlying4 _), (trodAll_cons_mk (Below.trod laidOut (by kernel_rfl) (of_decide_eq_true (by kernel_rfl)) k0 bel lt0) trodAll_mk0), rfl, bel.frame _, fun h => by cases h⟩

theorem holds : Rows.FnWaysOfSaid :=
  OpenClaim.holds_of_wide 5 Try.f5 rfl rfl rfl rfl rfl rfl rfl ⟨rfl, rfl, rfl, rfl, rfl⟩ rfl rfl rfl rfl rfl (by kernel_rfl) Try.func5 (by kernel_rfl)
    (of_decide_eq_true (by kernel_rfl)) (by unfold Func.isWrapper; first | (rw [if_pos (by decide +kernel)]; kernel_rfl) | (rw [if_neg (by decide +kernel)]; exact ⟨rfl, rfl⟩))
    (fun os started H enc _ => lifted os started H enc)
end fnWaysOf

end Go.Proofs.Ytaplmlbpleilfaa
