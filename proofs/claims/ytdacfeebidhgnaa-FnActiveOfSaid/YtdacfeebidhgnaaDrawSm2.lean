/- The draw of a net with few edges. -/
import Derived.Test.YtdacfeebidhgnaaDraws
import Derived.Deep.AppendLies
namespace Go.Proofs.Ytdacfeebidhgnaa
open Go.RowKit
set_option maxRecDepth 100000

/-- Edges that lie in blocks between two others. -/
def EdgesOff (w : World) (lo hi : Nat) (A : Option Addr) (es : List (Int × Int)) : Prop :=
  ∀ k e, es[k]? = some e → ∃ b off, A = some ⟨b, off, none⟩ ∧ lo ≤ b ∧ b < hi ∧
    w.cell? ⟨b, off + k * 2, none⟩ = some (.int .i64 e.1) ∧ w.cell? ⟨b, off + k * 2 + 1, none⟩ = some (.int .i64 e.2)
theorem EdgesOff.keep {w w' : World} {lo hi : Nat} {A : Option Addr} {es : List (Int × Int)} (h : EdgesOff w lo hi A es) (hk : ∀ p : Addr, lo ≤ p.block → p.block < hi → w'.cell? p = w.cell? p) : EdgesOff w' lo hi A es :=
  fun k e he => by
    obtain ⟨b, off, hA, h1, h2, h3, h4⟩ := h k e he
    exact ⟨b, off, hA, h1, h2, (hk ⟨b, _, none⟩ h1 h2).trans h3, (hk ⟨b, _, none⟩ h1 h2).trans h4⟩
theorem EdgesOff.less {w : World} {lo hi : Nat} {A : Option Addr} {es : List (Int × Int)} (h : EdgesOff w lo hi A es) (m : Nat) : EdgesOff w lo hi A (es.take m) :=
  fun k e he => h k e (by
    by_cases hk : k < m
    · rwa [List.getElem?_take_of_lt hk] at he
    · rw [List.getElem?_take, if_neg hk] at he; cases he)
theorem EdgesOff.more {w : World} {lo hi hi' : Nat} {A : Option Addr} {es : List (Int × Int)} (h : EdgesOff w lo hi A es) (hh : hi ≤ hi') : EdgesOff w lo hi' A es :=
  fun k e he => by
    obtain ⟨b, off, hA, h1, h2, h3, h4⟩ := h k e he
    exact ⟨b, off, hA, h1, by omega, h3, h4⟩
theorem EdgesOff.edges {w : World} {lo hi B : Nat} {A : Option Addr} {es : List (Int × Int)} (h : EdgesOff w lo hi A es) (hB : hi ≤ B) : EdgesIn w B A es :=
  fun k e he => by
    obtain ⟨b, off, hA, h1, h2, h3, h4⟩ := h k e he
    exact ⟨b, off, hA, by omega, h3, h4⟩
theorem OwnE.off {w : World} {base hi c : Nat} {A : Option Addr} {es : List (Int × Int)} (h : OwnE w base (.slice A es.length c) es) (hhi : w.heap.size ≤ hi) : EdgesOff w base hi A es := by
  have he := h.edges
  intro k e hk
  obtain ⟨b, off, hA, h1, h3, h4⟩ := he k e hk
  have hg := (World.ownsRow.lt h b (by rw [hA]; rfl)).1
  exact ⟨b, off, hA, hg, by omega, h3, h4⟩

/-- A net has been drawn; of what was there only the reader turned. -/
def DrawnSm (w : World) (rb : Nat) (B : Option Addr) (l cap p : Nat) (e : Ending) (w' : World) : Prop :=
  ∃ (n : Int) (A : Option Addr) (c : Nat) (es : List (Int × Int)) (q : Nat), e = .returned (.agg #[.int .i64 n, .slice A es.length c]) ∧ EdgesOff w' w.heap.size w'.heap.size A es ∧
    1 ≤ n ∧ n ≤ 7 ∧ es.length ≤ 20 ∧ es.length ≤ c ∧ Rd w' rb B l cap q ∧ q ≤ p + 200 ∧ w.grownBy w' (some rb)
/-- The boxes of the draw. -/
structure SmBox (w wr : World) (rb tb nb : Nat) (n : Int) (A : Option Addr) (c : Nat) (es : List (Int × Int)) : Prop where
  n0 : wr.cell? ⟨nb, 0, none⟩ = some (.int .i64 n)
  n1 : wr.cell? ⟨nb, 1, none⟩ = some (.slice A es.length c)
  f0 : wr.frozen? ⟨nb, 0, none⟩ = false
  f1 : wr.frozen? ⟨nb, 1, none⟩ = false
  r0 : wr.cell? ⟨tb, 0, none⟩ = some (.int .i64 0)
  r1 : wr.cell? ⟨tb, 1, none⟩ = some (.slice none 0 0)
  g0 : wr.frozen? ⟨tb, 0, none⟩ = false
  g1 : wr.frozen? ⟨tb, 1, none⟩ = false
  ed : EdgesOff wr (tb + 1) nb A es
  gr : w.grownBy wr (some rb)
  o1 : rb < tb
  o2 : tb < nb
  o3 : w.heap.size ≤ tb
  o4 : nb < wr.heap.size
  cp : es.length ≤ c
section
variable {w wr w1 : World} {rb tb nb : Nat} {n : Int} {A : Option Addr} {c : Nat} {es : List (Int × Int)}
theorem SmBox.readOn (h : SmBox w wr rb tb nb n A c es) (p m : Nat) : SmBox w (readOn wr rb p m) rb tb nb n A c es := by
  have o1 := h.o1
  have o2 := h.o2
  exact ⟨(readOn_cell _ _ _ _ _ (by simp; omega)).trans h.n0, (readOn_cell _ _ _ _ _ (by simp; omega)).trans h.n1, (readOn_frozen ..).trans h.f0, (readOn_frozen ..).trans h.f1,
   (readOn_cell _ _ _ _ _ (by simp; omega)).trans h.r0, (readOn_cell _ _ _ _ _ (by simp; omega)).trans h.r1, (readOn_frozen ..).trans h.g0, (readOn_frozen ..).trans h.g1,
   h.ed.keep (fun p' h1 h2 => readOn_cell _ _ _ _ _ (by omega)), grown_trans h.gr (readOn_grown ..), h.o1, h.o2, h.o3, by rw [readOn_size]; exact h.o4, h.cp⟩
theorem SmBox.start {t t' : TypeId} (hr : rb < w.heap.size) (own : OwnE w1 (w.alloc (.cells #[.int .i64 0, .slice none 0 0] t)).heap.size (.slice A es.length c) es)
    (hg : (w.alloc (.cells #[.int .i64 0, .slice none 0 0] t)).grownBy w1 (some rb)) (hc : es.length ≤ c) :
    SmBox w (w1.alloc (.cells #[.int .i64 n, .slice A es.length c] t')) rb w.heap.size w1.heap.size n A c es := by
  have h2 := NetBox2.start (n := n) (t' := t') hr own hg
  have hb := (Below.refl w1.heap.size w1).alloc (Nat.le_refl _) (.cells #[.int .i64 n, .slice A es.length c] t')
  rw [World.size_alloc] at own
  exact ⟨h2.n0, h2.n1, World.frozen?_alloc_at _ _ _ _ rfl, World.frozen?_alloc_at _ _ _ _ rfl, h2.r0, h2.r1, h2.g0, h2.g1, (own.off (Nat.le_refl _)).keep (fun p h1 h2 => hb.cell h2), h2.gr, h2.o1, h2.o2, h2.o3, h2.o4, hc⟩
theorem SmBox.cut (h : SmBox w wr rb tb nb n A c es) {m : Nat} (hm : m ≤ es.length) : SmBox w (wr.setCell ⟨nb, 1, none⟩ (.slice A m c)) rb tb nb n A c (es.take m) := by
  have o2 := h.o2
  have o3 := h.o3
  have hl : (es.take m).length = m := by rw [List.length_take]; omega
  refine ⟨(World.cell?_setCell_other _ _ _ _ (by simp)).trans h.n0, ?_, (World.frozen?_setCell ..).trans h.f0, (World.frozen?_setCell ..).trans h.f1,
    (World.cell?_setCell_far _ _ _ _ (by simp; omega)).trans h.r0, (World.cell?_setCell_far _ _ _ _ (by simp; omega)).trans h.r1, (World.frozen?_setCell ..).trans h.g0, (World.frozen?_setCell ..).trans h.g1,
    (h.ed.less m).keep (fun p h1 h2 => World.cell?_setCell_far _ _ _ _ (by simp; omega)), grown_below h.gr ((Below.refl w.heap.size wr).setCell (by simp; omega) _) (Nat.le_refl _), h.o1, h.o2, h.o3, by simp [World.setCell]; exact h.o4, by rw [hl]; have := h.cp; omega⟩
  rw [hl]; exact World.cell?_setCell_same _ _ _ h.n1
end
end Go.Proofs.Ytdacfeebidhgnaa

/- The draw of a net with few edges: l20Small. -/
namespace Go.Proofs.Ytdacfeebidhgnaa
open Go.RowKit
set_option maxRecDepth 100000

theorem OwnE.empty (w : World) {base : Nat} (hb : base ≤ w.heap.size) : OwnE (w.alloc (.cells #[] 57)) base (.slice (some ⟨w.heap.size, 0, none⟩) 0 0) [] :=
  ⟨rfl, .inr ⟨w.heap.size, 0, #[], rfl, hb, heap_alloc_new w _, Nat.le_refl _, by decide, rfl, rfl⟩⟩
theorem OwnE.capSm {w : World} {base n c : Nat} {A : Option Addr} {es : List (Int × Int)} (h : OwnE w base (.slice A n c) es) : es.length ≤ c := by
  rcases h.2 with ⟨h1, h2⟩ | ⟨g, cap, cur, h1, h2, h3, h4, h5, h6, h7⟩
  · injection h1 with e1 e2 e3
    rw [h2]; omega
  · injection h1 with e1 e2 e3
    subst e3; exact h4
section
variable {w wr w' : World} {rb tb nb : Nat} {n : Int} {A A2 : Option Addr} {c c2 : Nat} {es es2 : List (Int × Int)}
theorem SmBox.next (h : SmBox w wr rb tb nb n A c es) (hb : Below (nb + 1) wr w') : SmBox w w' rb tb nb n A c es := by
  have o1 := h.o1
  have o2 := h.o2
  have o3 := h.o3
  have o4 := h.o4
  have hs := hb.size
  exact ⟨(hb.cell (p := ⟨nb, 0, none⟩) (by simp)).trans h.n0, (hb.cell (p := ⟨nb, 1, none⟩) (by simp)).trans h.n1, (hb.frozen (p := ⟨nb, 0, none⟩) (by simp)).trans h.f0, (hb.frozen (p := ⟨nb, 1, none⟩) (by simp)).trans h.f1,
    (hb.cell (p := ⟨tb, 0, none⟩) (by simp; omega)).trans h.r0, (hb.cell (p := ⟨tb, 1, none⟩) (by simp; omega)).trans h.r1, (hb.frozen (p := ⟨tb, 0, none⟩) (by simp; omega)).trans h.g0, (hb.frozen (p := ⟨tb, 1, none⟩) (by simp; omega)).trans h.g1,
    h.ed.keep (fun p h1 h2 => hb.cell (by omega)), grown_below h.gr (hb.mono (by omega)) (Nat.le_refl _), h.o1, h.o2, h.o3, by omega, h.cp⟩
theorem SmBox.setN (h : SmBox w wr rb tb nb n A c es) (n' : Int) : SmBox w (wr.setCell ⟨nb, 0, none⟩ (.int .i64 n')) rb tb nb n' A c es := by
  have o2 := h.o2
  have o3 := h.o3
  exact ⟨World.cell?_setCell_same _ _ _ h.n0, (World.cell?_setCell_other _ _ _ _ (by simp)).trans h.n1, (World.frozen?_setCell ..).trans h.f0, (World.frozen?_setCell ..).trans h.f1,
    (World.cell?_setCell_far _ _ _ _ (by simp; omega)).trans h.r0, (World.cell?_setCell_far _ _ _ _ (by simp; omega)).trans h.r1, (World.frozen?_setCell ..).trans h.g0, (World.frozen?_setCell ..).trans h.g1,
    h.ed.keep (fun p h1 h2 => World.cell?_setCell_far _ _ _ _ (by simp; omega)), grown_below h.gr ((Below.refl w.heap.size wr).setCell (by simp; omega) _) (Nat.le_refl _), h.o1, h.o2, h.o3, by simp [World.setCell]; exact h.o4, h.cp⟩
theorem SmBox.result (h : SmBox w wr rb w.heap.size nb n A c es) {B : Option Addr} {l cap p q : Nat} (hr : Rd wr rb B l cap q) (hq : q ≤ p + 200) (h1 : 1 ≤ n) (h7 : n ≤ 7) (hle : es.length ≤ 20) :
    DrawnSm w rb B l cap p (.returned (.agg #[.int .i64 n, .slice A es.length c])) ((wr.setCell ⟨w.heap.size, 0, none⟩ (.int .i64 n)).setCell ⟨w.heap.size, 1, none⟩ (.slice A es.length c)) := by
  have o1 := h.o1
  have o2 := h.o2
  have o4 := h.o4
  refine ⟨n, A, c, es, q, rfl, ?_, h1, h7, hle, h.cp, ?_, hq, ?_⟩
  · have e1 := h.ed.keep (w' := (wr.setCell ⟨w.heap.size, 0, none⟩ (.int .i64 n)).setCell ⟨w.heap.size, 1, none⟩ (.slice A es.length c)) (fun p h1 h2 => (World.cell?_setCell_far _ _ _ _ (by simp; omega)).trans (World.cell?_setCell_far _ _ _ _ (by simp; omega)))
    intro k e he
    obtain ⟨b, off, hA, k1, k2, k3, k4⟩ := e1 k e he
    exact ⟨b, off, hA, by omega, by simp [World.setCell]; omega, k3, k4⟩
  · exact hr.keep (((Below.refl w.heap.size wr).setCell (by simp) _).setCell (by simp) _) o1
  · exact grown_below h.gr (((Below.refl w.heap.size wr).setCell (by simp) _).setCell (by simp) _) (Nat.le_refl _)
theorem SmBox.last (h : SmBox w wr rb w.heap.size nb n A c es) (own : OwnE wr (nb + 1) (.slice A2 es2.length c2) es2) {B : Option Addr} {l cap p q : Nat} (hr : Rd wr rb B l cap q) (hq : q ≤ p + 200) (h1 : 1 ≤ n) (h7 : n ≤ 7) (hle : es2.length ≤ 20) :
    DrawnSm w rb B l cap p (.returned (.agg #[.int .i64 n, .slice A2 es2.length c2])) (((wr.setCell ⟨nb, 1, none⟩ (.slice A2 es2.length c2)).setCell ⟨w.heap.size, 0, none⟩ (.int .i64 n)).setCell ⟨w.heap.size, 1, none⟩ (.slice A2 es2.length c2)) := by
  have o1 := h.o1
  have o2 := h.o2
  have o4 := h.o4
  refine ⟨n, A2, c2, es2, q, rfl, ?_, h1, h7, hle, own.capSm, ?_, hq, ?_⟩
  · have e1 := (own.off (Nat.le_refl _)).keep (w' := ((wr.setCell ⟨nb, 1, none⟩ (.slice A2 es2.length c2)).setCell ⟨w.heap.size, 0, none⟩ (.int .i64 n)).setCell ⟨w.heap.size, 1, none⟩ (.slice A2 es2.length c2)) (fun p h1 h2 => ((World.cell?_setCell_far _ _ _ _ (by simp; omega)).trans (World.cell?_setCell_far _ _ _ _ (by simp; omega))).trans (World.cell?_setCell_far _ _ _ _ (by simp; omega)))
    intro k e he
    obtain ⟨b, off, hA, k1, k2, k3, k4⟩ := e1 k e he
    exact ⟨b, off, hA, by omega, by simp [World.setCell]; omega, k3, k4⟩
  · exact hr.keep ((((Below.refl w.heap.size wr).setCell (by simp; omega) _).setCell (by simp) _).setCell (by simp) _) o1
  · exact grown_below h.gr ((((Below.refl w.heap.size wr).setCell (by simp; omega) _).setCell (by simp) _).setCell (by simp) _) (Nat.le_refl _)
end

set_option maxHeartbeats 8000000 in
theorem l20Small_any (rb : Nat) (B : Option Addr) (l cap p : Nat) (n : Int) (w : World) (h : Rd w rb B l cap p) (hp : p ≤ 800000) (hn : n ≤ 1000) (hn1 : 1 ≤ n) :
    Calls Try.prog 94 #[.pointer (some ⟨rb, 0, none⟩), .int .i64 n] w (DrawnSm w rb B l cap p) := by
  obtain ⟨i0, hi0, hz0, hz1, hz2⟩ := info_parts edge_info
  have hrb := h.lt
  have H1 := h.keep ((Below.refl w.heap.size w).alloc (Nat.le_refl _) (.cells #[.int .i64 0, .slice none 0 0] 29)) hrb
  go_enter Try.func94, Try.ntmps94
  go_wp2_with fail
  refine (l20Net_any _ _ _ _ _ _ _ H1 (by omega) hn hn1).mono ?_
  rintro e1 w1 ⟨N, A, c, es, q, rfl, own, n1, n7, hle, H2, hq, hg⟩
  have SB := SmBox.start (n := N) (t' := 29) hrb own hg own.capSm
  have H3 := H2.keep ((Below.refl w1.heap.size w1).alloc (Nat.le_refl _) (.cells #[.int .i64 N, .slice A es.length c] 29)) H2.lt
  have hnb : w.heap.size < w1.heap.size := SB.o2
  clear H1 H2 own hg h
  have hcap := SB.cp
  have HL0 : Hid (∃ L, es.length = L) := ⟨_, rfl⟩
  by_cases h6 : 6 < es.length
  · have i6 : (6 : Int) < (es.length : Int) := by omega
    have hc6 : (6 : Int) ≤ (c : Int) := by omega
    obtain ⟨c0, c1, f0, f1, r0, r1, g0, g1, _, _, o1, o2, o3, o4, -⟩ := id SB
    go_wp2_with fail
    refine (pick_any _ _ _ _ _ _ _ H3 (by omega) (by omega)).mono ?_
    rintro e3 w3 ⟨x3, m3, rfl, a3, b3, -, rfl⟩
    have b3 := b3 (by omega)
    have H4 := H3.next m3
    have SB4 := SB.readOn q m3
    clear SB H3 c0 c1 f0 f1 r0 r1 g0 g1 o1 o2 o3 o4
    generalize readOn (w1.alloc (.cells #[.int .i64 N, .slice A es.length c] 29)) rb q m3 = W at *
    generalize w1.heap.size = nb at *
    generalize hq4 : q + 1 = q4 at *
    have hq44 : q4 ≤ p + 101 := by omega
    clear hq4
    obtain ⟨c0, c1, f0, f1, r0, r1, g0, g1, _, _, o1, o2, o3, o4, -⟩ := id SB4
    by_cases hx : 0 < x3
    · have SB := SB4.cut (m := 6) (by omega)
      have H := H4.keep ((Below.refl nb W).setCell (by simp) (p := ⟨nb, 1, none⟩) (.slice A 6 c)) (by omega)
      have HL : Hid ((es.take 6).length = 6) := by rw [Hid, List.length_take]; omega
      clear SB4 H4
      by_cases h5 : N = 6
      · subst h5
        go_wp2_with fail
        refine (pick_any _ _ _ _ _ _ _ H (by omega) (by omega)).mono ?_
        rintro e5 w5 ⟨y, my, rfl, ay, by5, -, rfl⟩
        have by5 := by5 (by omega)
        have H5 := H.next my
        have SB5 := SB.readOn q4 my
        clear SB H c0 c1 f0 f1 r0 r1 g0 g1 o1 o2 o3 o4
        generalize readOn (W.setCell ⟨nb, 1, none⟩ (.slice A 6 c)) rb q4 my = V at *
        obtain ⟨c0, c1, f0, f1, r0, r1, g0, g1, _, _, o1, o2, o3, o4, -⟩ := id SB5
        rw [HL.out] at c1
        by_cases hy : 0 < y
        · have SB6 := (SB5.setN 5).next ((Below.refl (nb + 1) (V.setCell ⟨nb, 0, none⟩ (.int .i64 5))).alloc (by simp [World.setCell]; omega) (.cells #[] 57))
          have H6 := H5.keep (((Below.refl nb V).setCell (by simp) (p := ⟨nb, 0, none⟩) (.int .i64 5)).alloc (by simp [World.setCell]; omega) (.cells #[] 57)) (by omega)
          have own6 := OwnE.empty (V.setCell ⟨nb, 0, none⟩ (.int .i64 5)) (base := nb + 1) (by simp [World.setCell]; omega)
          have hvs : (V.setCell ⟨nb, 0, none⟩ (.int .i64 5)).heap.size = V.heap.size := by simp [World.setCell]
          rw [hvs] at own6
          go_wp2_with fail
          go_loopw [6, 7] (fun sv t wr => ∃ (k : Nat) (A2 : Option Addr) (c2 : Nat) (es2 : List (Int × Int)), k ≤ 6 ∧ t = .int .i64 (k : Nat) ∧ sv = .slice A2 es2.length c2 ∧ es2.length ≤ k ∧ OwnE wr (nb + 1) (.slice A2 es2.length c2) es2 ∧ SmBox w wr rb w.heap.size nb 5 A c (es.take 6) ∧ Rd wr rb B l cap (q4 + 1)) (fun _ t _ => 6 - (intOf t).toNat)
          case atStart => exact ⟨0, some ⟨V.heap.size, 0, none⟩, 0, [], by omega, rfl, rfl, by simp, own6, SB6, H6⟩
          case round =>
            clear SB5 SB6 H5 H6 own6 c0 c1 f0 f1 r0 r1 g0 g1 o1 o2 o3 o4 hvs
            obtain ⟨k, A2, c2, es2, hk, rfl, rfl, hk2, own, SB, H⟩ := hrel
            obtain ⟨c0, c1, f0, f1, r0, r1, g0, g1, ed, _, o1, o2, o3, o4, -⟩ := id SB
            rw [HL.out] at c1
            by_cases hlk : k < 6
            · obtain ⟨⟨a, b⟩, he⟩ : ∃ e, (es.take 6)[k]? = some e := ⟨_, List.getElem?_eq_getElem (by have := HL.out; omega)⟩
              obtain ⟨g, off, rfl, hg1, hg2, z1, z2⟩ := ed k _ he
              simp only at z1 z2
              have hgw : g < wr.heap.size := by omega
              clear ed he
              by_cases hb5 : b ≤ 5
              · have OW := Lib.hid own
                have HK := Lib.hid hk2
                clear own
                go_wp2_with (at_builtin; (refine wpList_append_lies _ rfl (.tmp 48) (.tmp 54) 27 rfl (nb + 1) 57 i0 _ 2 16 Try.underlying27 hi0 hz0 hz1 hz2 rfl (by omega) (.slice A2 es2.length c2) es2.length (flat es2) rfl (World.ownsRow.alloc OW.out _) ⟨wr.heap.size, 0, none⟩ 1 1 [.int .i64 a, .int .i64 b] rfl rfl (World.news_of_block (cs := #[.int .i64 a, .int .i64 b]) (t := 57) (fr := (0, 0)) (heap_alloc_new _ _)) (by simp [Value.oneCell']) (by omega) (by simp [maxLen]; omega) (by omega) (by simp; omega) _ rfl ?_); intro gg cc w5 hown5 hgrow hat hlt5)
                have O5 : OwnE w5 (nb + 1) (.slice (some ⟨gg, 0, none⟩) (es2 ++ [(a, b)]).length cc) (es2 ++ [(a, b)]) := by
                  unfold OwnE; rw [flat_append, List.length_append]; exact hown5
                have hbel : Below (nb + 1) wr w5 := ((Below.refl (nb + 1) wr).alloc (by omega) _).grown hgrow (by simp; omega) (fun j hj => (World.ownsRow.lt OW.out j hj).1)
                have SB7 := SB.next hbel
                have H7 := H.keep hbel (by omega)
                rw [List.length_append] at O5
                clear hown5 hgrow hat hlt5 OW SB H c0 c1 f0 f1 r0 r1 g0 g1 o1 o2 o3 o4 z1 z2
                go_roundw
                case rel => exact ⟨k + 1, some ⟨gg, 0, none⟩, cc, es2 ++ [(a, b)], by omega, by go_num, by rw [List.length_append]; rfl, by have := HK.out; simp; omega, by rw [List.length_append]; exact O5, SB7, H7⟩
                case measure => simp [intOf]; omega
              · go_wp2_with fail
                go_roundw
                case rel => exact ⟨k + 1, A2, c2, es2, by omega, by go_num, rfl, by omega, own, SB, H⟩
                case measure => simp [intOf]; omega
            · have DR := SB.last own (p := p) H (by omega) (by omega) (by omega) (by omega)
              have DD := Lib.hid DR
              clear DR
              have og := own.lt
              go_wp2_with fail
              refine bodyPost_ret (v := .agg #[.int .i64 5, .slice A2 es2.length c2]) (by simp [results, Try.results94, go_sem, *]) rfl ?_
              exact DD.out
        · have DR := SB5.result (p := p) H5 (by omega) (by omega) (by omega) (by rw [HL.out]; omega)
          rw [HL.out] at DR
          have DD := Lib.hid DR
          clear DR
          go_wp2_with fail
          refine bodyPost_ret (v := .agg #[.int .i64 6, .slice A 6 c]) (by simp [results, Try.results94, go_sem, *]) rfl ?_
          exact DD.out
      · have DR := SB.result (p := p) H (by omega) n1 n7 (by rw [HL.out]; omega)
        rw [HL.out] at DR
        have DD := Lib.hid DR
        clear DR
        have h52 : (N == 6) = false := beq_eq_false_iff_ne.2 h5
        go_wp2_with fail
        refine bodyPost_ret (v := .agg #[.int .i64 N, .slice A 6 c]) (by simp [results, Try.results94, go_sem, *]) rfl ?_
        exact DD.out
    · have SB := SB4
      have H := H4
      clear SB4 H4
      generalize hL : es.length = L at *
      have HL := Lib.hid hL
      clear hL
      by_cases h5 : N = 6
      · subst h5
        go_wp2_with fail
        refine (pick_any _ _ _ _ _ _ _ H (by omega) (by omega)).mono ?_
        rintro e5 w5 ⟨y, my, rfl, ay, by5, -, rfl⟩
        have by5 := by5 (by omega)
        have H5 := H.next my
        have SB5 := SB.readOn q4 my
        clear SB H c0 c1 f0 f1 r0 r1 g0 g1 o1 o2 o3 o4
        generalize readOn W rb q4 my = V at *
        obtain ⟨c0, c1, f0, f1, r0, r1, g0, g1, _, _, o1, o2, o3, o4, -⟩ := id SB5
        rw [HL.out] at c1
        by_cases hy : 0 < y
        · have SB6 := (SB5.setN 5).next ((Below.refl (nb + 1) (V.setCell ⟨nb, 0, none⟩ (.int .i64 5))).alloc (by simp [World.setCell]; omega) (.cells #[] 57))
          have H6 := H5.keep (((Below.refl nb V).setCell (by simp) (p := ⟨nb, 0, none⟩) (.int .i64 5)).alloc (by simp [World.setCell]; omega) (.cells #[] 57)) (by omega)
          have own6 := OwnE.empty (V.setCell ⟨nb, 0, none⟩ (.int .i64 5)) (base := nb + 1) (by simp [World.setCell]; omega)
          have hvs : (V.setCell ⟨nb, 0, none⟩ (.int .i64 5)).heap.size = V.heap.size := by simp [World.setCell]
          rw [hvs] at own6
          go_wp2_with fail
          go_loopw [6, 7] (fun sv t wr => ∃ (k : Nat) (A2 : Option Addr) (c2 : Nat) (es2 : List (Int × Int)), k ≤ L ∧ t = .int .i64 (k : Nat) ∧ sv = .slice A2 es2.length c2 ∧ es2.length ≤ k ∧ OwnE wr (nb + 1) (.slice A2 es2.length c2) es2 ∧ SmBox w wr rb w.heap.size nb 5 A c es ∧ Rd wr rb B l cap (q4 + 1)) (fun _ t _ => L - (intOf t).toNat)
          case atStart => exact ⟨0, some ⟨V.heap.size, 0, none⟩, 0, [], by omega, rfl, rfl, by simp, own6, SB6, H6⟩
          case round =>
            clear SB5 SB6 H5 H6 own6 c0 c1 f0 f1 r0 r1 g0 g1 o1 o2 o3 o4 hvs
            obtain ⟨k, A2, c2, es2, hk, rfl, rfl, hk2, own, SB, H⟩ := hrel
            obtain ⟨c0, c1, f0, f1, r0, r1, g0, g1, ed, _, o1, o2, o3, o4, -⟩ := id SB
            rw [HL.out] at c1
            by_cases hlk : k < L
            · obtain ⟨⟨a, b⟩, he⟩ : ∃ e, es[k]? = some e := ⟨_, List.getElem?_eq_getElem (by have := HL.out; omega)⟩
              obtain ⟨g, off, rfl, hg1, hg2, z1, z2⟩ := ed k _ he
              simp only at z1 z2
              have hgw : g < wr.heap.size := by omega
              clear ed he
              by_cases hb5 : b ≤ 5
              · have OW := Lib.hid own
                have HK := Lib.hid hk2
                clear own
                go_wp2_with (at_builtin; (refine wpList_append_lies _ rfl (.tmp 48) (.tmp 54) 27 rfl (nb + 1) 57 i0 _ 2 16 Try.underlying27 hi0 hz0 hz1 hz2 rfl (by omega) (.slice A2 es2.length c2) es2.length (flat es2) rfl (World.ownsRow.alloc OW.out _) ⟨wr.heap.size, 0, none⟩ 1 1 [.int .i64 a, .int .i64 b] rfl rfl (World.news_of_block (cs := #[.int .i64 a, .int .i64 b]) (t := 57) (fr := (0, 0)) (heap_alloc_new _ _)) (by simp [Value.oneCell']) (by omega) (by simp [maxLen]; omega) (by omega) (by simp; omega) _ rfl ?_); intro gg cc w5 hown5 hgrow hat hlt5)
                have O5 : OwnE w5 (nb + 1) (.slice (some ⟨gg, 0, none⟩) (es2 ++ [(a, b)]).length cc) (es2 ++ [(a, b)]) := by
                  unfold OwnE; rw [flat_append, List.length_append]; exact hown5
                have hbel : Below (nb + 1) wr w5 := ((Below.refl (nb + 1) wr).alloc (by omega) _).grown hgrow (by simp; omega) (fun j hj => (World.ownsRow.lt OW.out j hj).1)
                have SB7 := SB.next hbel
                have H7 := H.keep hbel (by omega)
                rw [List.length_append] at O5
                clear hown5 hgrow hat hlt5 OW SB H c0 c1 f0 f1 r0 r1 g0 g1 o1 o2 o3 o4 z1 z2
                go_roundw
                case rel => exact ⟨k + 1, some ⟨gg, 0, none⟩, cc, es2 ++ [(a, b)], by omega, by go_num, by rw [List.length_append]; rfl, by have := HK.out; simp; omega, by rw [List.length_append]; exact O5, SB7, H7⟩
                case measure => simp [intOf]; omega
              · go_wp2_with fail
                go_roundw
                case rel => exact ⟨k + 1, A2, c2, es2, by omega, by go_num, rfl, by omega, own, SB, H⟩
                case measure => simp [intOf]; omega
            · have DR := SB.last own (p := p) H (by omega) (by omega) (by omega) (by omega)
              have DD := Lib.hid DR
              clear DR
              have og := own.lt
              go_wp2_with fail
              refine bodyPost_ret (v := .agg #[.int .i64 5, .slice A2 es2.length c2]) (by simp [results, Try.results94, go_sem, *]) rfl ?_
              exact DD.out
        · have DR := SB5.result (p := p) H5 (by omega) (by omega) (by omega) (by rw [HL.out]; omega)
          rw [HL.out] at DR
          have DD := Lib.hid DR
          clear DR
          go_wp2_with fail
          refine bodyPost_ret (v := .agg #[.int .i64 6, .slice A L c]) (by simp [results, Try.results94, go_sem, *]) rfl ?_
          exact DD.out
      · have DR := SB.result (p := p) H (by omega) n1 n7 (by rw [HL.out]; omega)
        rw [HL.out] at DR
        have DD := Lib.hid DR
        clear DR
        have h52 : (N == 6) = false := beq_eq_false_iff_ne.2 h5
        go_wp2_with fail
        refine bodyPost_ret (v := .agg #[.int .i64 N, .slice A L c]) (by simp [results, Try.results94, go_sem, *]) rfl ?_
        exact DD.out
  · have i6 : ¬ (6 : Int) < (es.length : Int) := by omega
    have H := H3
    generalize hq4 : q = q4 at *
    have hq44 : q4 ≤ p + 101 := by omega
    clear hq4 H3
    obtain ⟨c0, c1, f0, f1, r0, r1, g0, g1, _, _, o1, o2, o3, o4, -⟩ := id SB
    generalize hL : es.length = L at *
    have HL := Lib.hid hL
    clear hL
    go_upto_if 19 with (fail)
    clear c0 c1 f0 f1 r0 r1 g0 g1 o1 o2 o3 o4
    generalize (w1.alloc (.cells #[.int .i64 N, .slice A L c] 29)) = W at *
    generalize w1.heap.size = nb at *
    obtain ⟨c0, c1, f0, f1, r0, r1, g0, g1, _, _, o1, o2, o3, o4, -⟩ := id SB
    rw [HL.out] at c1
    by_cases h5 : N = 6
    · subst h5
      go_wp2_with fail
      refine (pick_any _ _ _ _ _ _ _ H (by omega) (by omega)).mono ?_
      rintro e5 w5 ⟨y, my, rfl, ay, by5, -, rfl⟩
      have by5 := by5 (by omega)
      have H5 := H.next my
      have SB5 := SB.readOn q4 my
      clear SB H c0 c1 f0 f1 r0 r1 g0 g1 o1 o2 o3 o4
      generalize readOn W rb q4 my = V at *
      obtain ⟨c0, c1, f0, f1, r0, r1, g0, g1, _, _, o1, o2, o3, o4, -⟩ := id SB5
      rw [HL.out] at c1
      by_cases hy : 0 < y
      · have SB6 := (SB5.setN 5).next ((Below.refl (nb + 1) (V.setCell ⟨nb, 0, none⟩ (.int .i64 5))).alloc (by simp [World.setCell]; omega) (.cells #[] 57))
        have H6 := H5.keep (((Below.refl nb V).setCell (by simp) (p := ⟨nb, 0, none⟩) (.int .i64 5)).alloc (by simp [World.setCell]; omega) (.cells #[] 57)) (by omega)
        have own6 := OwnE.empty (V.setCell ⟨nb, 0, none⟩ (.int .i64 5)) (base := nb + 1) (by simp [World.setCell]; omega)
        have hvs : (V.setCell ⟨nb, 0, none⟩ (.int .i64 5)).heap.size = V.heap.size := by simp [World.setCell]
        rw [hvs] at own6
        go_wp2_with fail
        go_loopw [6, 7] (fun sv t wr => ∃ (k : Nat) (A2 : Option Addr) (c2 : Nat) (es2 : List (Int × Int)), k ≤ L ∧ t = .int .i64 (k : Nat) ∧ sv = .slice A2 es2.length c2 ∧ es2.length ≤ k ∧ OwnE wr (nb + 1) (.slice A2 es2.length c2) es2 ∧ SmBox w wr rb w.heap.size nb 5 A c es ∧ Rd wr rb B l cap (q4 + 1)) (fun _ t _ => L - (intOf t).toNat)
        case atStart => exact ⟨0, some ⟨V.heap.size, 0, none⟩, 0, [], by omega, rfl, rfl, by simp, own6, SB6, H6⟩
        case round =>
          clear SB5 SB6 H5 H6 own6 c0 c1 f0 f1 r0 r1 g0 g1 o1 o2 o3 o4 hvs
          obtain ⟨k, A2, c2, es2, hk, rfl, rfl, hk2, own, SB, H⟩ := hrel
          obtain ⟨c0, c1, f0, f1, r0, r1, g0, g1, ed, _, o1, o2, o3, o4, -⟩ := id SB
          rw [HL.out] at c1
          by_cases hlk : k < L
          · obtain ⟨⟨a, b⟩, he⟩ : ∃ e, es[k]? = some e := ⟨_, List.getElem?_eq_getElem (by have := HL.out; omega)⟩
            obtain ⟨g, off, rfl, hg1, hg2, z1, z2⟩ := ed k _ he
            simp only at z1 z2
            have hgw : g < wr.heap.size := by omega
            clear ed he
            by_cases hb5 : b ≤ 5
            · have OW := Lib.hid own
              have HK := Lib.hid hk2
              clear own
              go_wp2_with (at_builtin; (refine wpList_append_lies _ rfl (.tmp 48) (.tmp 54) 27 rfl (nb + 1) 57 i0 _ 2 16 Try.underlying27 hi0 hz0 hz1 hz2 rfl (by omega) (.slice A2 es2.length c2) es2.length (flat es2) rfl (World.ownsRow.alloc OW.out _) ⟨wr.heap.size, 0, none⟩ 1 1 [.int .i64 a, .int .i64 b] rfl rfl (World.news_of_block (cs := #[.int .i64 a, .int .i64 b]) (t := 57) (fr := (0, 0)) (heap_alloc_new _ _)) (by simp [Value.oneCell']) (by omega) (by simp [maxLen]; omega) (by omega) (by simp; omega) _ rfl ?_); intro gg cc w5 hown5 hgrow hat hlt5)
              have O5 : OwnE w5 (nb + 1) (.slice (some ⟨gg, 0, none⟩) (es2 ++ [(a, b)]).length cc) (es2 ++ [(a, b)]) := by
                unfold OwnE; rw [flat_append, List.length_append]; exact hown5
              have hbel : Below (nb + 1) wr w5 := ((Below.refl (nb + 1) wr).alloc (by omega) _).grown hgrow (by simp; omega) (fun j hj => (World.ownsRow.lt OW.out j hj).1)
              have SB7 := SB.next hbel
              have H7 := H.keep hbel (by omega)
              rw [List.length_append] at O5
              clear hown5 hgrow hat hlt5 OW SB H c0 c1 f0 f1 r0 r1 g0 g1 o1 o2 o3 o4 z1 z2
              go_roundw
              case rel => exact ⟨k + 1, some ⟨gg, 0, none⟩, cc, es2 ++ [(a, b)], by omega, by go_num, by rw [List.length_append]; rfl, by have := HK.out; simp; omega, by rw [List.length_append]; exact O5, SB7, H7⟩
              case measure => simp [intOf]; omega
            · go_wp2_with fail
              go_roundw
              case rel => exact ⟨k + 1, A2, c2, es2, by omega, by go_num, rfl, by omega, own, SB, H⟩
              case measure => simp [intOf]; omega
          · have DR := SB.last own (p := p) H (by omega) (by omega) (by omega) (by omega)
            have DD := Lib.hid DR
            clear DR
            have og := own.lt
            go_wp2_with fail
            refine bodyPost_ret (v := .agg #[.int .i64 5, .slice A2 es2.length c2]) (by simp [results, Try.results94, go_sem, *]) rfl ?_
            exact DD.out
      · have DR := SB5.result (p := p) H5 (by omega) (by omega) (by omega) (by rw [HL.out]; omega)
        rw [HL.out] at DR
        have DD := Lib.hid DR
        clear DR
        go_wp2_with fail
        refine bodyPost_ret (v := .agg #[.int .i64 6, .slice A L c]) (by simp [results, Try.results94, go_sem, *]) rfl ?_
        exact DD.out
    · have DR := SB.result (p := p) H (by omega) n1 n7 (by rw [HL.out]; omega)
      rw [HL.out] at DR
      have DD := Lib.hid DR
      clear DR
      have h52 : (N == 6) = false := beq_eq_false_iff_ne.2 h5
      go_wp2_with fail
      refine bodyPost_ret (v := .agg #[.int .i64 N, .slice A L c]) (by simp [results, Try.results94, go_sem, *]) rfl ?_
      exact DD.out
end Go.Proofs.Ytdacfeebidhgnaa
