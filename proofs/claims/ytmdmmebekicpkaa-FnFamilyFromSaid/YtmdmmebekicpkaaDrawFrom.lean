/- The draw of a number of things and states. -/
import Derived.Test.YtmdmmebekicpkaaDraw8
namespace Go.Proofs.Ytmdmmebekicpkaa
open Go.RowKit
set_option maxRecDepth 100000

/-- A draw under way: the reader, and a row of the call's own. -/
structure ListDraw (w u : World) (rb : Nat) (B : Option Addr) (l cap q : Nat) (v : Value) (xs : List Int) : Prop where
  rd : Rd u rb B l cap q
  own : OwnI u (rb + 1) v xs
  bel : Below w.heap.size w u
  hr : w.heap.size ≤ rb
section
variable {w u u' : World} {rb : Nat} {B : Option Addr} {l cap q : Nat} {v v' : Value} {xs xs' : List Int}
theorem ListDraw.read (h : ListDraw w u rb B l cap q v xs) (m : Nat) : ListDraw w (readOn u rb q m) rb B l cap (q + 1) v xs :=
  ⟨h.rd.next m, readOn_ownI h.own _ _ _ (by omega), h.bel.trans (below_of_grown (readOn_grown u rb q m) h.bel.size h.hr), h.hr⟩
theorem ListDraw.append (h : ListDraw w u rb B l cap q v xs) (hg : u.grownBy u' v.ownBlock) (own' : OwnI u' (rb + 1) v' xs') : ListDraw w u' rb B l cap q v' xs' := by
  have hlt := h.rd.lt
  have hr := h.hr
  have hge := h.own.ge
  have hb : Below (rb + 1) u u' := (Below.refl _ _).grown hg (by omega) hge
  exact ⟨h.rd.keep hb (by omega), own', h.bel.trans (hb.mono (by omega)), hr⟩
theorem ListDraw.next (h : ListDraw w u rb B l cap q v xs) (hb : Below u.heap.size u u') : ListDraw w u' rb B l cap q v xs :=
  ⟨h.rd.keep hb h.rd.lt, h.own.below hb h.own.lt, h.bel.trans (hb.mono h.bel.size), h.hr⟩
end

def GotFrom (w : World) (e : Ending) (w' : World) : Prop :=
  ∃ (t : Int) (A : Option Addr) (c : Nat) (xs : List Int), e = .returned (.tuple #[.int .i64 t, .slice A xs.length c]) ∧ OwnI w' w.heap.size (.slice A xs.length c) xs ∧ -7 ≤ t ∧ t ≤ 8 ∧ xs.length ≤ 65 ∧ Below w.heap.size w w'

set_option maxHeartbeats 4000000 in
theorem drawFamilyFrom_any (A : Option Addr) (l cap : Nat) (w : World) (hb : BytesIn w w.heap.size A l) (hl : l ≤ 1048576) (hc : l ≤ cap) :
    Calls Try.prog 15 #[.slice A l cap] w (GotFrom w) := by
  obtain ⟨i0, hi0, hz0, hz1, hz2⟩ := info_parts int_info
  go_enter Try.func15, Try.ntmps15
  go_wp2_with fail
  refine (open_any _ _ _ _ hb hl hc).mono ?_
  rintro e1 w1 ⟨rb, B, l1, c1, rfl, H1, hge, hb1⟩
  go_wp2_with fail
  refine (pick_any _ _ _ _ _ _ _ H1 (by omega) (by omega)).mono ?_
  rintro e2 w2 ⟨x2, m2, rfl, a2, b2, -, rfl⟩
  have b2 := b2 (by omega)
  have H2 := H1.next m2
  have B2 := hb1.trans (below_of_grown (readOn_grown w1 rb 0 m2) hb1.size hge)
  generalize readOn w1 rb 0 m2 = w2 at *
  go_wp2_with fail
  refine (pick_any _ _ _ _ _ _ _ H2 (by omega) (by omega)).mono ?_
  rintro e3 w3 ⟨x3, m3, rfl, a3, b3, -, rfl⟩
  have b3 := b3 (by omega)
  have H3 := H2.next m3
  have B3 := B2.trans (below_of_grown (readOn_grown w2 rb (0 + 1) m3) B2.size hge)
  generalize readOn w2 rb (0 + 1) m3 = w3 at *
  have wt3 : x3.tdiv 29 = x3 / 29 := Int.tdiv_eq_ediv_of_nonneg a3
  have wu3 : IntKind.i64.wrap (x3 / 29) = x3 / 29 := IntWalk.i64_in _ (by omega)
  have wv3 : IntKind.i64.wrap (x3 / 29 * 3) = x3 / 29 * 3 := IntWalk.i64_in _ (by omega)
  have ws3 : IntKind.i64.wrap (x2 + x3 / 29 * 3) = x2 + x3 / 29 * 3 := IntWalk.i64_in _ (by omega)
  go_wp2_with fail
  refine (pick_any _ _ _ _ _ _ _ H3 (by omega) (by omega)).mono ?_
  rintro e4 w4 ⟨x4, m4, rfl, a4, b4, -, rfl⟩
  have b4 := b4 (by omega)
  have H4 := H3.next m4
  have B4 := B3.trans (below_of_grown (readOn_grown w3 rb (0 + 1 + 1) m4) B3.size hge)
  generalize readOn w3 rb (0 + 1 + 1) m4 = w4 at *
  have wt4 : x4.tdiv 39 = x4 / 39 := Int.tdiv_eq_ediv_of_nonneg a4
  have wu4 : IntKind.i64.wrap (x4 / 39) = x4 / 39 := IntWalk.i64_in _ (by omega)
  have wv4 : IntKind.i64.wrap (x4 / 39 * 7) = x4 / 39 * 7 := IntWalk.i64_in _ (by omega)
  have ws4 : IntKind.i64.wrap (x2 + x3 / 29 * 3 - x4 / 39 * 7) = x2 + x3 / 29 * 3 - x4 / 39 * 7 := IntWalk.i64_in _ (by omega)
  have ht1 : -7 ≤ x2 + x3 / 29 * 3 - x4 / 39 * 7 := by omega
  have ht2 : x2 + x3 / 29 * 3 - x4 / 39 * 7 ≤ 8 := by omega
  go_wp2_with fail
  generalize x2 + x3 / 29 * 3 - x4 / 39 * 7 = t at *
  have hb4 := (Below.refl w4.heap.size w4).alloc (Nat.le_refl _) (.cells #[] 3)
  have o1 : OwnI (w4.alloc (.cells #[] 3)) w4.heap.size (.slice (some ⟨w4.heap.size, 0, none⟩) 0 0) [] := OwnI.box _ [] (by simp) (by simp)
  have D0 : ListDraw w (w4.alloc (.cells #[] 3)) rb B l1 c1 (0 + 1 + 1 + 1) (.slice (some ⟨w4.heap.size, 0, none⟩) 0 0) [] :=
    ⟨H4.keep hb4 H4.lt, o1.more (by have := H4.lt; omega), B4.trans (hb4.mono B4.size), hge⟩
  obtain ⟨M0, hM0, y0, y8⟩ : ∃ M0 : Int, (if (6 : Int) < t then (6 : Int) else t) = M0 ∧ -7 ≤ M0 ∧ M0 ≤ 6 := by
    refine ⟨_, rfl, ?_⟩
    split <;> omega
  obtain ⟨P0, hP0, z0, z8⟩ : ∃ P0 : Int, (if M0 < (0 : Int) then (0 : Int) else M0) = P0 ∧ 0 ≤ P0 ∧ P0 ≤ 6 := by
    refine ⟨_, rfl, ?_⟩
    split <;> omega
  obtain ⟨P1, hP1, p1, p2⟩ : ∃ P1 : Int, IntKind.i64.wrap (2 ^ P0.toNat) = P1 ∧ 1 ≤ P1 ∧ P1 ≤ 64 := by
    refine ⟨_, rfl, ?_⟩
    rcases (show P0 = 0 ∨ P0 = 1 ∨ P0 = 2 ∨ P0 = 3 ∨ P0 = 4 ∨ P0 = 5 ∨ P0 = 6 by omega) with h | h | h | h | h | h | h <;> rw [h] <;> decide
  clear H1 H2 H3 H4 B2 B3 B4 hb1 hb hb4 o1
  refine (pick_any _ _ _ _ _ _ _ D0.rd (by omega) (by omega)).mono ?_
  rintro e5 w5 ⟨x5, m5, rfl, a5, b5, -, rfl⟩
  have b5 := b5 (by omega)
  have D1 := D0.read m5
  obtain ⟨k1, rfl⟩ : ∃ k : Nat, x5 = k := ⟨x5.toNat, by omega⟩
  generalize readOn (w4.alloc (.cells #[] 3)) rb (0 + 1 + 1 + 1) m5 = v1 at *
  clear D0
  go_wp2_with fail
  go_loopw [6, 7] (fun v i wr => ∃ (A : Option Addr) (c k q : Nat) (xs : List Int), i = .int .i64 (k : Nat) ∧ v = .slice A xs.length c ∧ xs.length + k ≤ 5 ∧ q + 2 * k ≤ 20 ∧ ListDraw w wr rb B l1 c1 q (.slice A xs.length c) xs) (fun _ i _ => (intOf i).toNat)
  case atStart => exact ⟨some ⟨w4.heap.size, 0, none⟩, 0, k1, _, [], rfl, rfl, by simp; omega, by omega, D1⟩
  case round =>
    clear D1
    obtain ⟨A2, c2, k, q, xs, rfl, rfl, hxk, hqk, D⟩ := hrel
    by_cases hlt : 0 < k
    · go_wp2_with fail
      with_reducible refine (pick_any _ _ _ _ _ P1 _ D.rd (by omega) (by omega)).mono ?_
      rintro e6 w6 ⟨x6, m6, rfl, a6, b6, -, rfl⟩
      have b6 := b6 (by omega)
      have D6 := D.read m6
      generalize readOn wr rb q m6 = v6 at *
      clear D
      go_wp2_with fail
      with_reducible refine (pick_any _ _ _ _ _ (60 : Int) _ D6.rd (by omega) (by omega)).mono ?_
      rintro e7 w7 ⟨x7, m7, rfl, a7, b7, -, rfl⟩
      have b7 := b7 (by omega)
      have D7 := D6.read m7
      generalize readOn v6 rb (q + 1) m7 = v7 at *
      clear D6
      have wt7 : x7.tdiv 59 = x7 / 59 := Int.tdiv_eq_ediv_of_nonneg a7
      have wu7 : IntKind.i64.wrap (x7 / 59) = x7 / 59 := IntWalk.i64_in _ (by omega)
      have wv7 : IntKind.i64.wrap (x7 / 59 * 64) = x7 / 59 * 64 := IntWalk.i64_in _ (by omega)
      have ws7 : IntKind.i64.wrap (x6 + x7 / 59 * 64) = x6 + x7 / 59 * 64 := IntWalk.i64_in _ (by omega)
      have HO := Lib.hid D7.own
      have hsz := D7.rd.lt
      go_wp2_with (at_builtin; (refine wpList_append_lies _ rfl (.tmp 29) (.tmp 41) 23 rfl (rb + 1) 3 i0 _ 1 8 Try.underlying23 hi0 hz0 hz1 hz2 rfl (by omega) (.slice A2 xs.length c2) xs.length (ints xs) rfl (World.ownsRow.alloc HO.out _) ⟨v7.heap.size, 0, none⟩ 1 1 [.int .i64 (x6 + x7 / 59 * 64)] rfl rfl (World.news_of_block (cs := #[.int .i64 (x6 + x7 / 59 * 64)]) (t := 3) (fr := (0, 0)) (heap_alloc_new _ _)) (by simp [Value.oneCell']) (by omega) (by simp [maxLen]; omega) (by omega) (by simp; omega) _ rfl ?_); intro gg cc w8 hown8 hgrow hat hlt8)
      have O8 : OwnI w8 (rb + 1) (.slice (some ⟨gg, 0, none⟩) (xs.length + 1) cc) (xs ++ [x6 + x7 / 59 * 64]) := by
        unfold OwnI; rw [ints_append, List.length_append]; exact hown8
      have D8 := D7.append (grown_box hgrow) O8
      have hln : (xs ++ [x6 + x7 / 59 * 64]).length = xs.length + 1 := by simp
      go_roundw
      case rel => exact ⟨some ⟨gg, 0, none⟩, cc, k - 1, q + 2, xs ++ [x6 + x7 / 59 * 64], by go_num, by rw [hln], by rw [hln]; omega, by omega, by rw [hln]; exact D8⟩
      case measure => simp [intOf]; omega
    · obtain rfl : k = 0 := by omega
      go_wp2_with fail
      refine (odd_any _ _ _ _ _ _ _ D.rd (by omega) (by omega) (by omega)).mono ?_
      rintro e9 w9 ⟨bb, m9, rfl, rfl⟩
      have D9 := D.read m9
      generalize readOn wr rb q m9 = v9 at *
      clear D
      cases bb with
      | false =>
        go_wp2_with fail
        go_returns
        exact ⟨t, A2, c2, xs, rfl, D9.own.more (by have := D9.hr; omega), ht1, ht2, by omega, D9.bel⟩
      | true =>
        go_wp2_with (at_make; refine wpList_make_full _ rfl _ _ 23 rfl v9.heap.size 3 i0 _ 1 Try.underlying23 hi0 hz0 hz1 .i64 .i64 65 65 65 rfl rfl rfl rfl (by rw [hz2]; omega) (by simp [maxLen]) (Nat.le_refl _) ?_; intro w10 hown10 hg10)
        go_returns
        refine ⟨t, _, _, List.replicate 65 0, rfl, ?_, ht1, ht2, by simp, D9.bel.trans ((Below.refl _ _).grown hg10 (Nat.le_refl _) (by simp) |>.mono D9.bel.size)⟩
        exact OwnI.more (by unfold OwnI; rw [List.length_replicate, ← madeCells_ints]; exact hown10) D9.bel.size
end Go.Proofs.Ytmdmmebekicpkaa
