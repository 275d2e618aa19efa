/- The draws of a net with weights. -/
import Derived.Test.YtmdmmebekicpkabDrawTree
namespace Go.Proofs.Ytmdmmebekicpkab
open Go.RowKit
set_option maxRecDepth 100000

/-- A draw under way: the reader, the net's box, and a row of the call's own. -/
structure WsD (w u : World) (rb : Nat) (B : Option Addr) (l cap q : Nat) (n : Int) (A : Option Addr) (m c : Nat) (v : Value) (xs : List Int) : Prop where
  rd : Rd u rb B l cap q
  own : OwnI u (w.heap.size + 1) v xs
  c0 : u.cell? ⟨w.heap.size, 0, none⟩ = some (.int .i64 n)
  c1 : u.cell? ⟨w.heap.size, 1, none⟩ = some (.slice A m c)
  gr : w.grownBy u (some rb)
  lt : w.heap.size + 1 ≤ u.heap.size
  hr : rb < w.heap.size
section
variable {w u u' : World} {rb : Nat} {B : Option Addr} {l cap q : Nat} {n : Int} {A : Option Addr} {m c : Nat} {v v' : Value} {xs xs' : List Int}
theorem WsD.read (h : WsD w u rb B l cap q n A m c v xs) (k : Nat) : WsD w (readOn u rb q k) rb B l cap (q + 1) n A m c v xs := by
  have hr := h.hr
  exact ⟨h.rd.next k, readOn_ownI h.own _ _ _ (by omega), (readOn_cell _ _ _ _ _ (by simp; omega)).trans h.c0, (readOn_cell _ _ _ _ _ (by simp; omega)).trans h.c1, grown_trans h.gr (readOn_grown u rb q k), by rw [readOn_size]; exact h.lt, hr⟩
theorem WsD.append (h : WsD w u rb B l cap q n A m c v xs) (hg : u.grownBy u' v.ownBlock) (own' : OwnI u' (w.heap.size + 1) v' xs') : WsD w u' rb B l cap q n A m c v' xs' := by
  have hlt := h.lt
  have hge := h.own.ge
  have hr := h.hr
  have hb : Below (w.heap.size + 1) u u' := (Below.refl _ _).grown hg hlt hge
  exact ⟨h.rd.keep hb (by omega), own', (hb.cell (by simp)).trans h.c0, (hb.cell (by simp)).trans h.c1, grown_below h.gr hb (by omega), Nat.le_trans hlt hg.size, hr⟩
end

def DrewWs (w : World) (rb : Nat) (B : Option Addr) (l cap p : Nat) (e : Ending) (w' : World) : Prop :=
  ∃ (A : Option Addr) (c : Nat) (ws : List Int) (q : Nat), e = .returned (.slice A ws.length c) ∧ OwnI w' w.heap.size (.slice A ws.length c) ws ∧ ws.length ≤ 21 ∧ Rd w' rb B l cap q ∧ q ≤ p + 30 ∧ w.grownBy w' (some rb)

set_option maxHeartbeats 4000000 in
theorem l20Weights_any (rb : Nat) (B : Option Addr) (l cap p : Nat) (n : Int) (A : Option Addr) (c m : Nat) (w : World) (h : Rd w rb B l cap p) (hp : p ≤ 900000) (hm : m ≤ 20) :
    Calls Try.prog 54 #[.pointer (some ⟨rb, 0, none⟩), .agg #[.int .i64 n, .slice A m c]] w (DrewWs w rb B l cap p) := by
  obtain ⟨i0, hi0, hz0, hz1, hz2⟩ := info_parts int_info
  have hrb := h.lt
  have b1 := (Below.refl w.heap.size w).alloc (Nat.le_refl _) (.cells #[.int .i64 n, .slice A m c] 25)
  have b2 := (Below.refl (w.heap.size + 1) (w.alloc (.cells #[.int .i64 n, .slice A m c] 25))).alloc (by simp) (.cells #[] 3)
  have b3 := (Below.refl (w.heap.size + 2) ((w.alloc (.cells #[.int .i64 n, .slice A m c] 25)).alloc (.cells #[] 3))).alloc (by simp) (.cells #[.int .i64 3, .int .i64 10, .int .i64 100] 3)
  have o1 : OwnI ((w.alloc (.cells #[.int .i64 n, .slice A m c] 25)).alloc (.cells #[] 3)) (w.heap.size + 1) (.slice (some ⟨(w.alloc (.cells #[.int .i64 n, .slice A m c] 25)).heap.size, 0, none⟩) 0 0) [] := OwnI.box _ [] (by simp) (by simp)
  rw [World.size_alloc] at o1
  have D0 : WsD w (((w.alloc (.cells #[.int .i64 n, .slice A m c] 25)).alloc (.cells #[] 3)).alloc (.cells #[.int .i64 3, .int .i64 10, .int .i64 100] 3)) rb B l cap p n A m c (.slice (some ⟨w.heap.size + 1, 0, none⟩) 0 0) [] := by
    refine ⟨((h.keep b1 hrb).keep b2 (by omega)).keep b3 (by omega), o1.below (b3.mono (by simp)) o1.lt, ?_, ?_, grown_trans (grown_trans (World.grownBy_alloc _ _ _) (World.grownBy_alloc _ _ _)) (World.grownBy_alloc _ _ _), by simp, hrb⟩
    · exact (b3.cell (by simp)).trans ((b2.cell (by simp)).trans (by rw [World.cell?_alloc_at _ _ _ _ rfl]; rfl))
    · exact (b3.cell (by simp)).trans ((b2.cell (by simp)).trans (by rw [World.cell?_alloc_at _ _ _ _ rfl]; rfl))
  have hs : (((w.alloc (.cells #[.int .i64 n, .slice A m c] 25)).alloc (.cells #[] 3)).alloc (.cells #[.int .i64 3, .int .i64 10, .int .i64 100] 3)).heap.size = w.heap.size + 3 := by simp
  have t0 : (((w.alloc (.cells #[.int .i64 n, .slice A m c] 25)).alloc (.cells #[] 3)).alloc (.cells #[.int .i64 3, .int .i64 10, .int .i64 100] 3)).cell? ⟨w.heap.size + 2, 0, none⟩ = some (.int .i64 3) := by rw [World.cell?_alloc_at _ _ _ _ (by simp)]; rfl
  have t1 : (((w.alloc (.cells #[.int .i64 n, .slice A m c] 25)).alloc (.cells #[] 3)).alloc (.cells #[.int .i64 3, .int .i64 10, .int .i64 100] 3)).cell? ⟨w.heap.size + 2, 1, none⟩ = some (.int .i64 10) := by rw [World.cell?_alloc_at _ _ _ _ (by simp)]; rfl
  have t2 : (((w.alloc (.cells #[.int .i64 n, .slice A m c] 25)).alloc (.cells #[] 3)).alloc (.cells #[.int .i64 3, .int .i64 10, .int .i64 100] 3)).cell? ⟨w.heap.size + 2, 2, none⟩ = some (.int .i64 100) := by rw [World.cell?_alloc_at _ _ _ _ (by simp)]; rfl
  obtain ⟨W, hW⟩ : ∃ W, W = (((w.alloc (.cells #[.int .i64 n, .slice A m c] 25)).alloc (.cells #[] 3)).alloc (.cells #[.int .i64 3, .int .i64 10, .int .i64 100] 3)) := ⟨_, rfl⟩
  clear b1 b2 b3 o1 h
  go_enter Try.func54, Try.ntmps54
  go_wp2_with fail
  rw [← hW] at D0 hs t0 t1 t2 ⊢
  clear hW
  refine (pick_any _ _ _ _ _ _ _ D0.rd (by omega) (by omega)).mono ?_
  rintro e1 w1 ⟨x1, m1, rfl, a1, b1, -, rfl⟩
  have b1 := b1 (by omega)
  have D1 := D0.read m1
  have u0 := (readOn_cell W rb p m1 ⟨w.heap.size + 2, 0, none⟩ (by simp; omega)).trans t0
  have u1 := (readOn_cell W rb p m1 ⟨w.heap.size + 2, 1, none⟩ (by simp; omega)).trans t1
  have u2 := (readOn_cell W rb p m1 ⟨w.heap.size + 2, 2, none⟩ (by simp; omega)).trans t2
  obtain ⟨k1, rfl⟩ : ∃ k : Nat, x1 = k := ⟨x1.toNat, by omega⟩
  obtain ⟨H, hH, h1, h100⟩ : ∃ H : Int, (readOn W rb p m1).cell? ⟨w.heap.size + 2, k1, none⟩ = some (.int .i64 H) ∧ 1 ≤ H ∧ H ≤ 100 := by
    have : k1 = 0 ∨ k1 = 1 ∨ k1 = 2 := by omega
    rcases this with rfl | rfl | rfl
    · exact ⟨3, u0, by omega, by omega⟩
    · exact ⟨10, u1, by omega, by omega⟩
    · exact ⟨100, u2, by omega, by omega⟩
  have HH : (readOn W rb p m1).cell? ⟨w.heap.size + 2, 0 + k1, none⟩ = some (.int .i64 H) := by rw [Nat.zero_add]; exact hH
  clear D0 t0 t1 t2 u0 u1 u2
  generalize readOn W rb p m1 = V at *
  go_wp2_with fail
  clear hH HH
  go_loopw [5, 7] (fun v i wr => ∃ (A2 : Option Addr) (c2 k q : Nat) (xs : List Int), i = .int .i64 (k : Nat) ∧ v = .slice A2 xs.length c2 ∧ k ≤ m ∧ xs.length ≤ k ∧ q ≤ p + 1 + k ∧ WsD w wr rb B l cap q n A m c (.slice A2 xs.length c2) xs) (fun _ i _ => m - (intOf i).toNat)
  case atStart => exact ⟨some ⟨w.heap.size + 1, 0, none⟩, 0, 0, p + 1, [], rfl, rfl, by omega, by simp, by omega, D1⟩
  case round =>
    clear D1
    obtain ⟨A2, c2, k, q, xs, rfl, rfl, hk, hxk, hqk, D⟩ := hrel
    have c0 := D.c0
    have c1 := D.c1
    by_cases hlt : k < m
    · go_wp2_with fail
      with_reducible refine (pick_any _ _ _ _ _ H _ D.rd (by omega) (by omega)).mono ?_
      rintro e3 w3 ⟨x3, m3, rfl, a3, b3, -, rfl⟩
      have D3 := D.read m3
      generalize readOn wr rb q m3 = v3 at *
      clear D c0 c1
      have HO := Lib.hid D3.own
      have hsz := D3.lt
      go_wp2_with (at_builtin; (refine wpList_append_lies _ rfl (.tmp 21) (.tmp 25) 26 rfl (w.heap.size + 1) 3 i0 _ 1 8 Try.underlying26 hi0 hz0 hz1 hz2 rfl (by omega) (.slice A2 xs.length c2) xs.length (ints xs) rfl (World.ownsRow.alloc HO.out _) ⟨v3.heap.size, 0, none⟩ 1 1 [.int .i64 x3] rfl rfl (World.news_of_block (cs := #[.int .i64 x3]) (t := 3) (fr := (0, 0)) (heap_alloc_new _ _)) (by simp [Value.oneCell']) (by omega) (by simp [maxLen]; omega) (by omega) (by simp; omega) _ rfl ?_); intro gg cc w5 hown5 hgrow hat hlt5)
      have O5 : OwnI w5 (w.heap.size + 1) (.slice (some ⟨gg, 0, none⟩) (xs.length + 1) cc) (xs ++ [x3]) := by
        unfold OwnI; rw [ints_append, List.length_append]; exact hown5
      have D5 := D3.append (grown_box hgrow) O5
      have hln : (xs ++ [x3]).length = xs.length + 1 := by simp
      go_roundw
      case rel => exact ⟨some ⟨gg, 0, none⟩, cc, k + 1, q + 1, xs ++ [x3], by go_num, by rw [hln], by omega, by rw [hln]; omega, by omega, by rw [hln]; exact D5⟩
      case measure => simp [intOf]; omega
    · obtain rfl : k = m := by omega
      go_wp2_with fail
      refine (odd_any _ _ _ _ _ _ _ D.rd (by omega) (by omega) (by omega)).mono ?_
      rintro e9 w9 ⟨bb, m9, rfl, rfl⟩
      have D9 := D.read m9
      generalize readOn wr rb q m9 = v9 at *
      clear D c0 c1
      cases bb with
      | false =>
        go_wp2_with fail
        go_returns
        exact ⟨A2, c2, xs, q + 1, rfl, D9.own.more (show w.heap.size ≤ w.heap.size + 1 by omega), by omega, D9.rd, by omega, D9.gr⟩
      | true =>
        have HO := Lib.hid D9.own
        have hsz := D9.lt
        go_wp2_with (at_builtin; (refine wpList_append_lies _ rfl (.tmp 29) (.tmp 30) 26 rfl (w.heap.size + 1) 3 i0 _ 1 8 Try.underlying26 hi0 hz0 hz1 hz2 rfl (by omega) (.slice A2 xs.length c2) xs.length (ints xs) rfl (World.ownsRow.alloc HO.out _) ⟨v9.heap.size, 0, none⟩ 1 1 [.int .i64 1] rfl rfl (World.news_of_block (cs := #[.int .i64 1]) (t := 3) (fr := (0, 0)) (heap_alloc_new _ _)) (by simp [Value.oneCell']) (by omega) (by simp [maxLen]; omega) (by omega) (by simp; omega) _ rfl ?_); intro gg cc w5 hown5 hgrow hat hlt5)
        have O5 : OwnI w5 (w.heap.size + 1) (.slice (some ⟨gg, 0, none⟩) (xs.length + 1) cc) (xs ++ [1]) := by
          unfold OwnI; rw [ints_append, List.length_append]; exact hown5
        have D5 := D9.append (grown_box hgrow) O5
        have hln : (xs ++ [(1 : Int)]).length = xs.length + 1 := by simp
        go_returns
        exact ⟨some ⟨gg, 0, none⟩, cc, xs ++ [1], q + 1, by rw [hln]; rfl, by rw [hln]; exact D5.own.more (show w.heap.size ≤ w.heap.size + 1 by omega), by rw [hln]; omega, D5.rd, by omega, D5.gr⟩
end Go.Proofs.Ytmdmmebekicpkab
