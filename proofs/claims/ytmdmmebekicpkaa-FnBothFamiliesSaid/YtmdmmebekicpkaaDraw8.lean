/- The draws of families. -/
import Derived.Test.YtmdmmebekicpkaaSpec8d
namespace Go.Proofs.Ytmdmmebekicpkaa
open Go.RowKit
set_option maxRecDepth 100000

/-- A draw under way: the reader, a row of the call's own, and the result's box, which has not been written yet. -/
structure FamDraw (w u : World) (rb : Nat) (B : Option Addr) (l cap q : Nat) (v : Value) (xs : List Int) : Prop where
  rd : Rd u rb B l cap q
  own : OwnI u (w.heap.size + 1) v xs
  q0 : u.cell? ⟨w.heap.size, 0, none⟩ = some (.int .i64 0)
  q1 : u.cell? ⟨w.heap.size, 1, none⟩ = some (.slice none 0 0)
  r0 : u.frozen? ⟨w.heap.size, 0, none⟩ = false
  r1 : u.frozen? ⟨w.heap.size, 1, none⟩ = false
  gr : w.grownBy u (some rb)
  lt : w.heap.size + 1 ≤ u.heap.size
  hr : rb < w.heap.size
section
variable {w u u' : World} {rb : Nat} {B : Option Addr} {l cap q : Nat} {v v' : Value} {xs xs' : List Int}
theorem frozen_far {u : World} {p a : Addr} {x : Value} : (u.setCell p x).frozen? a = u.frozen? a := World.frozen?_setCell _ _ _ _
theorem FamDraw.read (h : FamDraw w u rb B l cap q v xs) (m : Nat) : FamDraw w (readOn u rb q m) rb B l cap (q + 1) v xs := by
  have hr := h.hr
  refine ⟨h.rd.next m, readOn_ownI h.own _ _ _ (by omega), (readOn_cell _ _ _ _ _ (by simp; omega)).trans h.q0, (readOn_cell _ _ _ _ _ (by simp; omega)).trans h.q1, ?_, ?_, grown_trans h.gr (readOn_grown u rb q m), by rw [readOn_size]; exact h.lt, hr⟩
  · exact (World.frozen?_setCell _ _ _ _).trans h.r0
  · exact (World.frozen?_setCell _ _ _ _).trans h.r1
theorem FamDraw.append (h : FamDraw w u rb B l cap q v xs) (hg : u.grownBy u' v.ownBlock) (own' : OwnI u' (w.heap.size + 1) v' xs') : FamDraw w u' rb B l cap q v' xs' := by
  have hlt := h.lt
  have hge := h.own.ge
  have hr := h.hr
  have hb : Below (w.heap.size + 1) u u' := (Below.refl _ _).grown hg hlt hge
  exact ⟨h.rd.keep hb (by omega), own', (hb.cell (by simp)).trans h.q0, (hb.cell (by simp)).trans h.q1, (hb.frozen (by simp)).trans h.r0, (hb.frozen (by simp)).trans h.r1, grown_below h.gr hb (by omega), Nat.le_trans hlt hg.size, hr⟩
theorem FamDraw.next (h : FamDraw w u rb B l cap q v xs) (hb : Below u.heap.size u u') : FamDraw w u' rb B l cap q v xs := by
  have hlt := h.lt
  have hr := h.hr
  exact ⟨h.rd.keep hb (by omega), h.own.below hb h.own.lt, (hb.cell (by simp; omega)).trans h.q0, (hb.cell (by simp; omega)).trans h.q1, (hb.frozen (by simp; omega)).trans h.r0, (hb.frozen (by simp; omega)).trans h.r1, grown_below h.gr hb (by omega), Nat.le_trans hlt hb.size, hr⟩
theorem FamDraw.start (hd : Rd w rb B l cap q) (ty ty2 : TypeId) (hn : ty2 = 3) :
    FamDraw w ((w.alloc (.cells #[.int .i64 0, .slice none 0 0] ty)).alloc (.cells #[] ty2)) rb B l cap q (.slice (some ⟨w.heap.size + 1, 0, none⟩) 0 0) [] := by
  subst hn
  have b0 := (Below.refl w.heap.size w).alloc (Nat.le_refl _) (.cells #[.int .i64 0, .slice none 0 0] ty)
  have b1 := (Below.refl (w.heap.size + 1) (w.alloc (.cells #[.int .i64 0, .slice none 0 0] ty))).alloc (by simp) (.cells #[] 3)
  have o1 : OwnI ((w.alloc (.cells #[.int .i64 0, .slice none 0 0] ty)).alloc (.cells #[] 3)) (w.heap.size + 1) (.slice (some ⟨(w.alloc (.cells #[.int .i64 0, .slice none 0 0] ty)).heap.size, 0, none⟩) 0 0) [] := OwnI.box _ [] (by simp) (by simp)
  rw [World.size_alloc] at o1
  refine ⟨(hd.keep b0 hd.lt).keep b1 (by have := hd.lt; omega), o1, (b1.cell (by simp)).trans (by rw [World.cell?_alloc_at _ _ _ _ rfl]; rfl), (b1.cell (by simp)).trans (by rw [World.cell?_alloc_at _ _ _ _ rfl]; rfl),
    (b1.frozen (by simp)).trans (World.frozen?_alloc_at _ _ _ _ rfl), (b1.frozen (by simp)).trans (World.frozen?_alloc_at _ _ _ _ rfl), (World.grownBy_alloc w _ _).trans (World.grownBy_alloc _ _ _), by simp, hd.lt⟩
end

/-- A family drawn. -/
def DrewFam (w : World) (rb : Nat) (B : Option Addr) (l cap p : Nat) (e : Ending) (w' : World) : Prop :=
  ∃ (t : Int) (A : Option Addr) (c : Nat) (xs : List Int) (q : Nat), e = .returned (.agg #[.int .i64 t, .slice A xs.length c]) ∧ OwnI w' w.heap.size (.slice A xs.length c) xs ∧ 0 ≤ t ∧ t ≤ 6 ∧ xs.length ≤ 64 ∧ Rd w' rb B l cap q ∧ q ≤ p + 6 ∧ w.grownBy w' (some rb)

set_option maxHeartbeats 4000000 in
theorem l20Family_any (rb : Nat) (B : Option Addr) (l cap p T : Nat) (w : World) (h : Rd w rb B l cap p) (hp : p ≤ 900000) (hT : T ≤ 6) :
    Calls Try.prog 117 #[.pointer (some ⟨rb, 0, none⟩), .int .i64 (T : Nat)] w (DrewFam w rb B l cap p) := by
  obtain ⟨i0, hi0, hz0, hz1, hz2⟩ := info_parts int_info
  obtain ⟨P, hP, p1, p2, hp3, hp4⟩ := pow_named12 (show T ≤ 13 by omega)
  have hP64 : P ≤ 64 := by rw [← hP]; exact pow_64 hT
  have hmin : min T 64 = T := by omega
  have D0 := FamDraw.start h 27 3 rfl
  have hs0 : ((w.alloc (.cells #[.int .i64 0, .slice none 0 0] 27)).alloc (.cells #[] 3)).heap.size = w.heap.size + 1 + 1 := by simp
  clear hP h
  obtain ⟨W, hW⟩ : ∃ W, W = (w.alloc (.cells #[.int .i64 0, .slice none 0 0] 27)).alloc (.cells #[] 3) := ⟨_, rfl⟩
  go_enter Try.func117, Try.ntmps117
  go_wp2_with fail
  rw [← hW] at D0 ⊢
  clear hW hs0
  refine (pick_any _ _ _ _ _ _ _ D0.rd (by omega) (by omega)).mono ?_
  rintro e1 w1 ⟨x1, m1, rfl, a1, b1, -, rfl⟩
  have b1 := b1 (by omega)
  have D1 := D0.read m1
  obtain ⟨k1, rfl⟩ : ∃ k : Nat, x1 = k := ⟨x1.toNat, by omega⟩
  generalize readOn W rb p m1 = v1 at *
  clear D0
  go_wp2_with fail
  go_loopw [5, 6] (fun v t wr => ∃ (A : Option Addr) (c k q : Nat) (xs : List Int), t = .int .i64 (k : Nat) ∧ v = .slice A xs.length c ∧ xs.length + k ≤ 5 ∧ q + k ≤ p + 6 ∧ FamDraw w wr rb B l cap q (.slice A xs.length c) xs) (fun _ t _ => (intOf t).toNat)
  case atStart => exact ⟨some ⟨w.heap.size + 1, 0, none⟩, 0, k1, p + 1, [], rfl, rfl, by simp; omega, by omega, D1⟩
  case round =>
    clear D1
    obtain ⟨A2, c2, k, q, xs, rfl, rfl, hxk, hqk, D⟩ := hrel
    by_cases hlt : 0 < k
    · go_wp2_with fail
      refine (pick_any _ _ _ _ _ _ _ D.rd (by omega) (by omega)).mono ?_
      rintro e3 w3 ⟨x3, m3, rfl, a3, b3, -, rfl⟩
      have D3 := D.read m3
      generalize readOn wr rb q m3 = v3 at *
      clear D
      have HO := Lib.hid D3.own
      have hsz := D3.lt
      go_wp2_with (at_builtin; (refine wpList_append_lies _ rfl (.tmp 16) (.tmp 21) 23 rfl (w.heap.size + 1) 3 i0 _ 1 8 Try.underlying23 hi0 hz0 hz1 hz2 rfl (by omega) (.slice A2 xs.length c2) xs.length (ints xs) rfl (World.ownsRow.alloc HO.out _) ⟨v3.heap.size, 0, none⟩ 1 1 [.int .i64 x3] rfl rfl (World.news_of_block (cs := #[.int .i64 x3]) (t := 3) (fr := (0, 0)) (heap_alloc_new _ _)) (by simp [Value.oneCell']) (by omega) (by simp [maxLen]; omega) (by omega) (by simp; omega) _ rfl ?_); intro gg cc w5 hown5 hgrow hat hlt5)
      have O5 : OwnI w5 (w.heap.size + 1) (.slice (some ⟨gg, 0, none⟩) (xs.length + 1) cc) (xs ++ [x3]) := by
        unfold OwnI; rw [ints_append, List.length_append]; exact hown5
      have D5 := D3.append (grown_box hgrow) O5
      have hln : (xs ++ [x3]).length = xs.length + 1 := by simp
      go_roundw
      case rel => exact ⟨some ⟨gg, 0, none⟩, cc, k - 1, q + 1, xs ++ [x3], by go_num, by rw [hln], by rw [hln]; omega, by omega, by rw [hln]; exact D5⟩
      case measure => simp [intOf]; omega
    · obtain rfl : k = 0 := by omega
      have HF := Lib.hid (specFrom_any (T : Nat) A2 c2 xs wr D.own.ints (by unfold maxLen; omega))
      have ht0 : 0 ≤ fromT (T : Nat) xs ∧ fromT (T : Nat) xs ≤ 6 := by unfold fromT; split <;> omega
      have hl0 := fromL_len (T : Nat) xs
      go_wp2_with fail
      refine HF.out.mono ?_
      rintro e4 w4 ⟨A4, c4, rfl, own4, hb4⟩
      have D4 := D.next hb4
      generalize fromT (T : Nat) xs = t at *
      generalize fromL (T : Nat) xs = R at *
      have hs4 := hb4.size
      have hl4 := D.lt
      have b5 := (Below.refl w4.heap.size w4).alloc (Nat.le_refl _) (.cells #[.int .i64 t, .slice A4 R.length c4] 27)
      have D5 := D4.next b5
      have O5 := own4.below b5 own4.lt
      have hge := own4.ge
      obtain ⟨rd, -, q0, q1, r0, r1, gr, lt, hr⟩ := id D4
      obtain ⟨-, -, s0, s1, s2, s3, -, -, -⟩ := id D5
      clear HF D own4 hb4
      go_wp2_with fail
      refine bodyPost_ret (v := .agg #[.int .i64 t, .slice A4 R.length c4]) (by simp [results, Try.results117, go_sem, *]) rfl ?_
      have hB : Below w.heap.size (w4.alloc (.cells #[.int .i64 t, .slice A4 R.length c4] 27)) (((w4.alloc (.cells #[.int .i64 t, .slice A4 R.length c4] 27)).setCell ⟨w.heap.size, 0, none⟩ (.int .i64 t)).setCell ⟨w.heap.size, 1, none⟩ (.slice A4 R.length c4)) := ((Below.refl _ _).setCell (by simp) _).setCell (by simp) _
      refine ⟨t, A4, c4, R, q, rfl, OwnI.far (OwnI.far (O5.more (by omega)) ?_ _) ?_ _, ht0.1, ht0.2, hl0, D5.rd.keep hB hr, by omega, grown_below D5.gr hB (Nat.le_refl _)⟩
      · intro k hk; have := hge k hk; simp; omega
      · intro k hk; have := hge k hk; simp; omega

/-- A family in a box (b5), not yet the result: the reader, the result's box, and the row. -/
structure FamBox (w u : World) (rb b5 : Nat) (B : Option Addr) (l cap q : Nat) (t : Int) (A : Option Addr) (c : Nat) (xs : List Int) : Prop where
  rd : Rd u rb B l cap q
  q0 : u.cell? ⟨w.heap.size, 0, none⟩ = some (.int .i64 0)
  q1 : u.cell? ⟨w.heap.size, 1, none⟩ = some (.slice none 0 0)
  r0 : u.frozen? ⟨w.heap.size, 0, none⟩ = false
  r1 : u.frozen? ⟨w.heap.size, 1, none⟩ = false
  c0 : u.cell? ⟨b5, 0, none⟩ = some (.int .i64 t)
  c1 : u.cell? ⟨b5, 1, none⟩ = some (.slice A xs.length c)
  f0 : u.frozen? ⟨b5, 0, none⟩ = false
  f1 : u.frozen? ⟨b5, 1, none⟩ = false
  own : OwnI u (w.heap.size + 1) (.slice A xs.length c) xs
  row : ∀ j, (Value.slice A xs.length c).ownBlock = some j → j ≠ b5
  gr : w.grownBy u (some rb)
  hr : rb < w.heap.size
  bl : w.heap.size < b5
  bh : b5 < u.heap.size
section
variable {w u u' : World} {rb b5 : Nat} {B : Option Addr} {l cap q : Nat} {t : Int} {A : Option Addr} {c : Nat} {xs : List Int}
theorem FamBox.read (h : FamBox w u rb b5 B l cap q t A c xs) (m : Nat) : FamBox w (readOn u rb q m) rb b5 B l cap (q + 1) t A c xs := by
  have hr := h.hr
  have bl := h.bl
  exact ⟨h.rd.next m, (readOn_cell _ _ _ _ _ (by simp; omega)).trans h.q0, (readOn_cell _ _ _ _ _ (by simp; omega)).trans h.q1, (World.frozen?_setCell _ _ _ _).trans h.r0, (World.frozen?_setCell _ _ _ _).trans h.r1,
    (readOn_cell _ _ _ _ _ (by simp; omega)).trans h.c0, (readOn_cell _ _ _ _ _ (by simp; omega)).trans h.c1, (World.frozen?_setCell _ _ _ _).trans h.f0, (World.frozen?_setCell _ _ _ _).trans h.f1, readOn_ownI h.own _ _ _ (by omega), h.row, grown_trans h.gr (readOn_grown u rb q m), hr, bl, by rw [readOn_size]; exact h.bh⟩
theorem FamBox.next (h : FamBox w u rb b5 B l cap q t A c xs) (hb : Below u.heap.size u u') : FamBox w u' rb b5 B l cap q t A c xs := by
  have hr := h.hr
  have bl := h.bl
  have bh := h.bh
  exact ⟨h.rd.keep hb (by omega), (hb.cell (by simp; omega)).trans h.q0, (hb.cell (by simp; omega)).trans h.q1, (hb.frozen (by simp; omega)).trans h.r0, (hb.frozen (by simp; omega)).trans h.r1, (hb.cell (by simp; omega)).trans h.c0, (hb.cell (by simp; omega)).trans h.c1,
    (hb.frozen (by simp; omega)).trans h.f0, (hb.frozen (by simp; omega)).trans h.f1, h.own.below hb h.own.lt, h.row, grown_below h.gr hb (by omega), hr, bl, Nat.lt_of_lt_of_le bh hb.size⟩
theorem FamBox.put0 (h : FamBox w u rb b5 B l cap q t A c xs) (t' : Int) : FamBox w (u.setCell ⟨b5, 0, none⟩ (.int .i64 t')) rb b5 B l cap q t' A c xs := by
  have hr := h.hr
  have bl := h.bl
  have bh := h.bh
  have hb : Below b5 u (u.setCell ⟨b5, 0, none⟩ (.int .i64 t')) := (Below.refl _ _).setCell (by simp) _
  exact ⟨h.rd.keep hb (by omega), (hb.cell (by simp; omega)).trans h.q0, (hb.cell (by simp; omega)).trans h.q1, (World.frozen?_setCell _ _ _ _).trans h.r0, (World.frozen?_setCell _ _ _ _).trans h.r1, World.cell?_setCell_same' _ _ _ (by rw [h.c0]; rfl), (World.cell?_setCell_other _ _ _ _ (by simp)).trans h.c1,
    (World.frozen?_setCell _ _ _ _).trans h.f0, (World.frozen?_setCell _ _ _ _).trans h.f1, h.own.far (fun k hk => by have := h.row k hk; simpa using this) _, h.row, grown_below h.gr hb (by omega), hr, bl, by simpa using bh⟩
theorem FamBox.put1 {A' : Option Addr} {c' : Nat} {xs' : List Int} (h : FamBox w u rb b5 B l cap q t A c xs) (own' : OwnI u (w.heap.size + 1) (.slice A' xs'.length c') xs') (hne : ∀ j, (Value.slice A' xs'.length c').ownBlock = some j → j ≠ b5) :
    FamBox w (u.setCell ⟨b5, 1, none⟩ (.slice A' xs'.length c')) rb b5 B l cap q t A' c' xs' := by
  have hr := h.hr
  have bl := h.bl
  have bh := h.bh
  have hb : Below b5 u (u.setCell ⟨b5, 1, none⟩ (.slice A' xs'.length c')) := (Below.refl _ _).setCell (by simp) _
  exact ⟨h.rd.keep hb (by omega), (hb.cell (by simp; omega)).trans h.q0, (hb.cell (by simp; omega)).trans h.q1, (World.frozen?_setCell _ _ _ _).trans h.r0, (World.frozen?_setCell _ _ _ _).trans h.r1, (World.cell?_setCell_other _ _ _ _ (by simp)).trans h.c0, World.cell?_setCell_same' _ _ _ (by rw [h.c1]; rfl),
    (World.frozen?_setCell _ _ _ _).trans h.f0, (World.frozen?_setCell _ _ _ _).trans h.f1, own'.far (fun k hk => by have := hne k hk; simpa using this) _, hne, grown_below h.gr hb (by omega), hr, bl, by simpa using bh⟩
/-- An append to the row, laid in the box. -/
theorem FamBox.appended {A' : Option Addr} {c' : Nat} {xs' : List Int} (h : FamBox w u rb b5 B l cap q t A c xs) (hg : u.grownBy u' (Value.slice A xs.length c).ownBlock) (own' : OwnI u' (w.heap.size + 1) (.slice A' xs'.length c') xs') (hne : ∀ j, (Value.slice A' xs'.length c').ownBlock = some j → j ≠ b5) :
    u'.cell? ⟨b5, 0, none⟩ = some (.int .i64 t) ∧ u'.cell? ⟨b5, 1, none⟩ = some (.slice A xs.length c) ∧ u'.frozen? ⟨b5, 0, none⟩ = false ∧ u'.frozen? ⟨b5, 1, none⟩ = false ∧ FamBox w (u'.setCell ⟨b5, 1, none⟩ (.slice A' xs'.length c')) rb b5 B l cap q t A' c' xs' := by
  have hr := h.hr
  have bl := h.bl
  have bh := h.bh
  have hge := h.own.ge
  have hb : Below (w.heap.size + 1) u u' := (Below.refl _ _).grown hg (by omega) hge
  have hblk : u'.heap[b5]? = u.heap[b5]? := hg.block b5 bh (fun e => h.row _ e.symm rfl)
  have k0 := (World.cell?_of_block (a := ⟨b5, 0, none⟩) hblk).trans h.c0
  have k1 := (World.cell?_of_block (a := ⟨b5, 1, none⟩) hblk).trans h.c1
  have k2 : u'.frozen? ⟨b5, 0, none⟩ = false := by simp only [World.frozen?, hblk]; exact h.f0
  have k3 : u'.frozen? ⟨b5, 1, none⟩ = false := by simp only [World.frozen?, hblk]; exact h.f1
  have hb2 : Below (w.heap.size + 1) u (u'.setCell ⟨b5, 1, none⟩ (.slice A' xs'.length c')) := hb.setCell (by simp; omega) _
  exact ⟨k0, k1, k2, k3, h.rd.keep hb2 (by omega), (hb2.cell (by simp)).trans h.q0, (hb2.cell (by simp)).trans h.q1, (hb2.frozen (by simp)).trans h.r0, (hb2.frozen (by simp)).trans h.r1, (World.cell?_setCell_other _ _ _ _ (by simp)).trans k0, World.cell?_setCell_same' _ _ _ (by rw [k1]; rfl),
    (World.frozen?_setCell _ _ _ _).trans k2, (World.frozen?_setCell _ _ _ _).trans k3, own'.far (fun k hk => by have := hne k hk; simpa using this) _, hne, grown_below h.gr hb2 (by omega), hr, bl, by have := hg.size; simp; omega⟩
end

/-- Any family drawn, one that is none too. -/
def DrewAny (w : World) (rb : Nat) (B : Option Addr) (l cap p : Nat) (e : Ending) (w' : World) : Prop :=
  ∃ (t : Int) (A : Option Addr) (c : Nat) (xs : List Int) (q : Nat), e = .returned (.agg #[.int .i64 t, .slice A xs.length c]) ∧ OwnI w' w.heap.size (.slice A xs.length c) xs ∧ -1 ≤ t ∧ t ≤ 7 ∧ xs.length ≤ 65 ∧ Rd w' rb B l cap q ∧ q ≤ p + 12 ∧ w.grownBy w' (some rb)
theorem FamBox.drew_any {w u : World} {rb b5 : Nat} {B : Option Addr} {l cap q p : Nat} {t : Int} {A : Option Addr} {c : Nat} {xs : List Int} (h : FamBox w u rb b5 B l cap q t A c xs) (h1 : -1 ≤ t) (h2 : t ≤ 7) (h3 : xs.length ≤ 65) (h4 : q ≤ p + 12) :
    DrewAny w rb B l cap p (.returned (.agg #[.int .i64 t, .slice A xs.length c])) ((u.setCell ⟨w.heap.size, 0, none⟩ (.int .i64 t)).setCell ⟨w.heap.size, 1, none⟩ (.slice A xs.length c)) := by
  have hge := h.own.ge
  have hB : Below w.heap.size u ((u.setCell ⟨w.heap.size, 0, none⟩ (.int .i64 t)).setCell ⟨w.heap.size, 1, none⟩ (.slice A xs.length c)) := ((Below.refl _ _).setCell (by simp) _).setCell (by simp) _
  refine ⟨t, A, c, xs, q, rfl, OwnI.far (OwnI.far (h.own.more (by omega)) ?_ _) ?_ _, h1, h2, h3, h.rd.keep hB h.hr, h4, grown_below h.gr hB (Nat.le_refl _)⟩
  · intro k hk; have := hge k hk; simp; omega
  · intro k hk; have := hge k hk; simp; omega

set_option maxHeartbeats 8000000 in
theorem l20Fam_any (rb : Nat) (B : Option Addr) (l cap p : Nat) (n : Int) (w : World) (h : Rd w rb B l cap p) (hp : p ≤ 800000) (hn : n ≤ 1000) (hn1 : 1 ≤ n) :
    Calls Try.prog 116 #[.pointer (some ⟨rb, 0, none⟩), .int .i64 n] w (DrewAny w rb B l cap p) := by
  obtain ⟨i0, hi0, hz0, hz1, hz2⟩ := info_parts int_info
  have hrb := h.lt
  have b0 := (Below.refl w.heap.size w).alloc (Nat.le_refl _) (.cells #[.int .i64 0, .slice none 0 0] 27)
  have H1 := h.keep b0 hrb
  have hs1 : (w.alloc (.cells #[.int .i64 0, .slice none 0 0] 27)).heap.size = w.heap.size + 1 := by simp
  have Z0 : (w.alloc (.cells #[.int .i64 0, .slice none 0 0] 27)).cell? ⟨w.heap.size, 0, none⟩ = some (.int .i64 0) := by rw [World.cell?_alloc_at _ _ _ _ rfl]; rfl
  have Z1 : (w.alloc (.cells #[.int .i64 0, .slice none 0 0] 27)).cell? ⟨w.heap.size, 1, none⟩ = some (.slice none 0 0) := by rw [World.cell?_alloc_at _ _ _ _ rfl]; rfl
  have Z2 : (w.alloc (.cells #[.int .i64 0, .slice none 0 0] 27)).frozen? ⟨w.heap.size, 0, none⟩ = false := World.frozen?_alloc_at _ _ _ _ rfl
  have Z3 : (w.alloc (.cells #[.int .i64 0, .slice none 0 0] 27)).frozen? ⟨w.heap.size, 1, none⟩ = false := World.frozen?_alloc_at _ _ _ _ rfl
  have g0 : w.grownBy (w.alloc (.cells #[.int .i64 0, .slice none 0 0] 27)) (some rb) := World.grownBy_alloc _ _ _
  clear h b0
  obtain ⟨W, hW⟩ : ∃ W, W = w.alloc (.cells #[.int .i64 0, .slice none 0 0] 27) := ⟨_, rfl⟩
  go_enter Try.func116, Try.ntmps116
  go_wp2_with fail
  rw [← hW] at H1 hs1 Z0 Z1 Z2 Z3 g0 ⊢
  clear hW
  refine (pick_any _ _ _ _ _ _ _ H1 (by omega) (by omega)).mono ?_
  rintro e1 w1 ⟨x1, m1, rfl, a1, b1, -, rfl⟩
  have b1 := b1 (by omega)
  have H2 := H1.next m1
  obtain ⟨T, rfl⟩ : ∃ k : Nat, x1 = k := ⟨x1.toNat, by omega⟩
  have g1 := grown_trans g0 (readOn_grown W rb p m1)
  have Y0 := (readOn_cell W rb p m1 ⟨w.heap.size, 0, none⟩ (by simp; omega)).trans Z0
  have Y1 := (readOn_cell W rb p m1 ⟨w.heap.size, 1, none⟩ (by simp; omega)).trans Z1
  have Y2 : (readOn W rb p m1).frozen? ⟨w.heap.size, 0, none⟩ = false := (World.frozen?_setCell _ _ _ _).trans Z2
  have Y3 : (readOn W rb p m1).frozen? ⟨w.heap.size, 1, none⟩ = false := (World.frozen?_setCell _ _ _ _).trans Z3
  have hs2 := readOn_size W rb p m1
  generalize readOn W rb p m1 = V at *
  clear Z0 Z1 Z2 Z3 g0 H1
  go_wp2_with fail
  refine (l20Family_any _ _ _ _ _ _ _ H2 (by omega) (by omega)).mono ?_
  rintro e2 w2 ⟨t, A, c, xs, q, rfl, own, t0, t1, hx, H3, hq, hg2⟩
  have hsz := hg2.size
  have hblk : ∀ k, k < V.heap.size → k ≠ rb → w2.heap[k]? = V.heap[k]? := fun k hk hne => hg2.block k hk (fun e => hne (Option.some.inj e))
  have b5 := (Below.refl w2.heap.size w2).alloc (Nat.le_refl _) (.cells #[.int .i64 t, .slice A xs.length c] 27)
  have hbk := hblk w.heap.size (by omega) (by omega)
  have F0 : FamBox w (w2.alloc (.cells #[.int .i64 t, .slice A xs.length c] 27)) rb w2.heap.size B l cap q t A c xs :=
    ⟨H3.keep b5 H3.lt, (b5.cell (by simp; omega)).trans ((World.cell?_of_block hbk).trans Y0), (b5.cell (by simp; omega)).trans ((World.cell?_of_block hbk).trans Y1),
      (b5.frozen (by simp; omega)).trans (by simp only [World.frozen?, hbk]; exact Y2), (b5.frozen (by simp; omega)).trans (by simp only [World.frozen?, hbk]; exact Y3),
      by rw [World.cell?_alloc_at _ _ _ _ rfl]; rfl, by rw [World.cell?_alloc_at _ _ _ _ rfl]; rfl, World.frozen?_alloc_at _ _ _ _ rfl, World.frozen?_alloc_at _ _ _ _ rfl,
      (own.below b5 own.lt).more (by omega), fun j hj => by have := own.lt j hj; omega, grown_trans (grown_trans g1 hg2) (World.grownBy_alloc _ _ _), by omega, by omega, by simp⟩
  clear H2 H3 own hblk hbk b5 Y0 Y1 Y2 Y3 g1 hg2
  obtain ⟨U, hU⟩ : ∃ U, U = w2.alloc (.cells #[.int .i64 t, .slice A xs.length c] 27) := ⟨_, rfl⟩
  go_wp2_with fail
  rw [← hU] at F0 ⊢
  clear hU
  generalize w2.heap.size = b at *
  refine (odd_any _ _ _ _ _ _ _ F0.rd (by omega) (by omega) hn1).mono ?_
  rintro e3 w3 ⟨o, m3, rfl, rfl⟩
  have F1 := F0.read m3
  generalize readOn U rb q m3 = U1 at *
  clear F0
  cases o with
  | false =>
    obtain ⟨-, q0, q1, r0, r1, c0, c1, -, -, -, -, -, -, -, -⟩ := id F1
    go_wp2_with fail
    refine bodyPost_ret (v := .agg #[.int .i64 t, .slice A xs.length c]) (by simp [results, Try.results116, go_sem, *]) rfl ?_
    exact F1.drew_any (by omega) (by omega) (by omega) (by omega)
  | true =>
    go_wp2_with fail
    refine (pick_any _ _ _ _ _ _ _ F1.rd (by omega) (by omega)).mono ?_
    rintro e4 w4 ⟨y, m4, rfl, a4, b4, -, rfl⟩
    have b4 := b4 (by omega)
    have F2 := F1.read m4
    generalize readOn U1 rb (q + 1) m4 = U2 at *
    clear F1
    rcases (by omega : y = 0 ∨ y = 1 ∨ y = 2) with rfl | rfl | rfl
    · -- the number of things is turned
      have F3 := F2.next ((Below.refl U2.heap.size U2).alloc (Nat.le_refl _) (.cells #[.int .i64 (-1), .int .i64 7] 3))
      have K0 : (U2.alloc (.cells #[.int .i64 (-1), .int .i64 7] 3)).cell? ⟨U2.heap.size, 0, none⟩ = some (.int .i64 (-1)) := by rw [World.cell?_alloc_at _ _ _ _ rfl]; rfl
      have K1 : (U2.alloc (.cells #[.int .i64 (-1), .int .i64 7] 3)).cell? ⟨U2.heap.size, 1, none⟩ = some (.int .i64 7) := by rw [World.cell?_alloc_at _ _ _ _ rfl]; rfl
      have hgb : rb < U2.heap.size := F2.rd.lt
      go_wp2_with fail
      refine (pick_any _ _ _ _ _ _ _ F3.rd (by omega) (by omega)).mono ?_
      rintro e5 w5 ⟨z, m5, rfl, a5, b5, -, rfl⟩
      have b5 := b5 (by omega)
      have F4 := F3.read m5
      have J0 := (readOn_cell (U2.alloc (.cells #[.int .i64 (-1), .int .i64 7] 3)) rb (q + 1 + 1) m5 ⟨U2.heap.size, 0, none⟩ (by simp; omega)).trans K0
      have J1 := (readOn_cell (U2.alloc (.cells #[.int .i64 (-1), .int .i64 7] 3)) rb (q + 1 + 1) m5 ⟨U2.heap.size, 1, none⟩ (by simp; omega)).trans K1
      generalize readOn (U2.alloc (.cells #[.int .i64 (-1), .int .i64 7] 3)) rb (q + 1 + 1) m5 = U3 at *
      clear F2 F3 K0 K1
      rcases (by omega : z = 0 ∨ z = 1) with rfl | rfl
      · have F5 := F4.put0 (-1)
        obtain ⟨-, q0, q1, r0, r1, c0, c1, f0, f1, -, -, -, -, -, -⟩ := id F4
        obtain ⟨-, s0, s1, s2, s3, s4, s5, -, -, -, -, -, -, -, -⟩ := id F5
        go_wp2_with fail
        refine bodyPost_ret (v := .agg #[.int .i64 (-1), .slice A xs.length c]) (by simp [results, Try.results116, go_sem, *]) rfl ?_
        exact F5.drew_any (by omega) (by omega) (by omega) (by omega)
      · have F5 := F4.put0 7
        obtain ⟨-, q0, q1, r0, r1, c0, c1, f0, f1, -, -, -, -, -, -⟩ := id F4
        obtain ⟨-, s0, s1, s2, s3, s4, s5, -, -, -, -, -, -, -, -⟩ := id F5
        go_wp2_with fail
        refine bodyPost_ret (v := .agg #[.int .i64 7, .slice A xs.length c]) (by simp [results, Try.results116, go_sem, *]) rfl ?_
        exact F5.drew_any (by omega) (by omega) (by omega) (by omega)
    · -- the list is turned
      have F3 := F2.next ((Below.refl U2.heap.size U2).alloc (Nat.le_refl _) (.cells #[.int .i64 1, .int .i64 3] 3))
      have hlt := F2.own
      have hgb : w.heap.size < U2.heap.size := by have := F2.bl; have := F2.bh; omega
      have hbh := F2.bh
      have o1 : OwnI (U2.alloc (.cells #[.int .i64 1, .int .i64 3] 3)) (w.heap.size + 1) (.slice (some ⟨U2.heap.size, 0, none⟩) [(1 : Int), 3].length 2) [1, 3] := OwnI.box U2 [1, 3] (by omega) (by simp [maxLen])
      have F4 : FamBox w ((U2.alloc (.cells #[.int .i64 1, .int .i64 3] 3)).setCell ⟨b, 1, none⟩ (.slice (some ⟨U2.heap.size, 0, none⟩) 2 2)) rb b B l cap (q + 1 + 1) t (some ⟨U2.heap.size, 0, none⟩) 2 [1, 3] := F3.put1 o1 (fun j hj => by have e : U2.heap.size = j := Option.some.inj hj; omega)
      obtain ⟨-, q0, q1, r0, r1, c0, c1, f0, f1, -, -, -, -, -, -⟩ := id F2
      obtain ⟨-, s0, s1, s2, s3, s4, s5', -, -, -, -, -, -, -, -⟩ := id F4
      have s5 : ((U2.alloc (.cells #[.int .i64 1, .int .i64 3] 3)).setCell ⟨b, 1, none⟩ (.slice (some ⟨U2.heap.size, 0, none⟩) 2 2)).cell? ⟨b, 1, none⟩ = some (.slice (some ⟨U2.heap.size, 0, none⟩) 2 2) := s5'
      clear s5'
      clear F2 F3 hlt o1
      go_wp2_with fail
      refine bodyPost_ret (v := .agg #[.int .i64 t, .slice (some ⟨U2.heap.size, 0, none⟩) 2 2]) (by simp [results, Try.results116, go_sem, *]) rfl ?_
      have R := F4.drew_any (p := p) (by omega) (by omega) (by simp) (by omega)
      rw [World.setCell_alloc_past _ _ _ _ hbh, World.setCell_alloc_past _ _ _ _ (by simp; omega), World.setCell_alloc_past _ _ _ _ (by simp; omega)] at R
      exact R
    · -- a state too great is appended
      obtain ⟨-, q0, q1, r0, r1, c0, c1, f0, f1, -, -, -, -, bl, bh⟩ := id F2
      have HO := Lib.hid F2.own
      have hln : (xs ++ [(64 : Int)]).length = xs.length + 1 := by simp
      have AP : Hid (∀ (gg cc : Nat) (w5 : World), w5.ownsRow (w.heap.size + 1) 3 1 (.slice (some ⟨gg, 0, none⟩) (xs.length + 1) cc) (xs.length + 1) (ints xs ++ [.int .i64 64]) → (U2.alloc (.cells #[.int .i64 64] 3)).grownBy w5 (Value.slice A xs.length c).ownBlock →
          ((Value.slice A xs.length c).ownBlock = some gg ∨ gg = (U2.alloc (.cells #[.int .i64 64] 3)).heap.size) →
          w5.cell? ⟨b, 0, none⟩ = some (.int .i64 t) ∧ w5.cell? ⟨b, 1, none⟩ = some (.slice A xs.length c) ∧ w5.frozen? ⟨b, 0, none⟩ = false ∧ w5.frozen? ⟨b, 1, none⟩ = false ∧
          FamBox w (w5.setCell ⟨b, 1, none⟩ (.slice (some ⟨gg, 0, none⟩) (xs.length + 1) cc)) rb b B l cap (q + 1 + 1) t (some ⟨gg, 0, none⟩) cc (xs ++ [64]) ∧
          (w5.setCell ⟨b, 1, none⟩ (.slice (some ⟨gg, 0, none⟩) (xs.length + 1) cc)).cell? ⟨b, 1, none⟩ = some (.slice (some ⟨gg, 0, none⟩) (xs.length + 1) cc)) := fun gg cc w5 hown5 hgrow hat => by
        have O5 : OwnI w5 (w.heap.size + 1) (.slice (some ⟨gg, 0, none⟩) (xs ++ [64]).length cc) (xs ++ [64]) := by
          unfold OwnI; rw [ints_append, List.length_append]; exact hown5
        have hne : ∀ j, (Value.slice (some ⟨gg, 0, none⟩) (xs ++ [(64 : Int)]).length cc).ownBlock = some j → j ≠ b := fun j hj => by
          have e : gg = j := Option.some.inj hj
          subst e
          rcases hat with h | h
          · exact F2.row _ h
          · simp at h; omega
        have G := F2.appended (grown_box hgrow) O5 hne
        rw [hln] at G
        obtain ⟨j0, j1, j2, j3, F5⟩ := G
        have z5 := F5.c1
        rw [hln] at z5
        exact ⟨j0, j1, j2, j3, F5, z5⟩
      clear F2
      go_wp2_with (at_builtin; (refine wpList_append_lies _ rfl (.tmp 16) (.tmp 17) 23 rfl (w.heap.size + 1) 3 i0 _ 1 8 Try.underlying23 hi0 hz0 hz1 hz2 rfl (by omega) (.slice A xs.length c) xs.length (ints xs) rfl (World.ownsRow.alloc HO.out _) ⟨U2.heap.size, 0, none⟩ 1 1 [.int .i64 64] rfl rfl (World.news_of_block (cs := #[.int .i64 64]) (t := 3) (fr := (0, 0)) (heap_alloc_new _ _)) (by simp [Value.oneCell']) (by omega) (by simp [maxLen]; omega) (by omega) (by simp; omega) _ rfl ?_); intro gg cc w5 hown5 hgrow hat hlt5; obtain ⟨j0, j1, j2, j3, F5, z5⟩ := AP.out gg cc w5 hown5 hgrow hat; have z0 := F5.q0; have z1 := F5.q1; have z2 := F5.r0; have z3 := F5.r1; have z4 := F5.c0; clear hown5 hgrow hat)
      refine bodyPost_ret (v := .agg #[.int .i64 t, .slice (some ⟨gg, 0, none⟩) (xs.length + 1) cc]) (by simp [results, Try.results116, go_sem, *]) rfl ?_
      have R := F5.drew_any (p := p) (by omega) (by omega) (by rw [hln]; omega) (by omega)
      rw [hln] at R
      exact R

def GotAny (w : World) (e : Ending) (w' : World) : Prop :=
  ∃ (t : Int) (A : Option Addr) (c : Nat) (xs : List Int), e = .returned (.agg #[.int .i64 t, .slice A xs.length c]) ∧ OwnI w' w.heap.size (.slice A xs.length c) xs ∧ -1 ≤ t ∧ t ≤ 7 ∧ xs.length ≤ 65 ∧ Below w.heap.size w w'

end Go.Proofs.Ytmdmmebekicpkaa
