/- Draws of chapter 11. -/
import Derived.Test.YtdacfeebidhgnabDrawSm2
import Derived.Test.YtdacfeebidhgnabDraw10
namespace Go.Proofs.Ytdacfeebidhgnab
open Go.RowKit
set_option maxRecDepth 100000

/-- What a draw of a net and two numbers leaves. -/
def GotNetPt (w : World) (e : Ending) (w' : World) : Prop :=
  ∃ (n : Int) (A : Option Addr) (c : Nat) (es : List (Int × Int)) (x y : Int), e = .returned (.tuple #[.agg #[.int .i64 n, .slice A es.length c], .int .i64 x, .int .i64 y]) ∧ OwnE w' w.heap.size (.slice A es.length c) es ∧
    1 ≤ n ∧ n ≤ 7 ∧ es.length ≤ 20 ∧ -1000 ≤ x ∧ x ≤ 1000 ∧ -1000 ≤ y ∧ y ≤ 1000 ∧ Below w.heap.size w w'
def DrawnPt (w : World) (rb : Nat) (B : Option Addr) (l cap p : Nat) (e : Ending) (w' : World) : Prop :=
  ∃ (n : Int) (A : Option Addr) (c : Nat) (es : List (Int × Int)) (x y : Int) (q : Nat), e = .returned (.tuple #[.agg #[.int .i64 n, .slice A es.length c], .int .i64 x, .int .i64 y]) ∧ OwnE w' w.heap.size (.slice A es.length c) es ∧
    1 ≤ n ∧ n ≤ 7 ∧ es.length ≤ 20 ∧ -1000 ≤ x ∧ x ≤ 1000 ∧ -1000 ≤ y ∧ y ≤ 1000 ∧ Rd w' rb B l cap q ∧ q ≤ p + 200 ∧ w.grownBy w' (some rb)
/-- A drawn net, and the result's box (block tb) that has not been written yet. -/
structure PtBox (w wr : World) (rb tb : Nat) (A : Option Addr) (c : Nat) (es : List (Int × Int)) : Prop where
  r0 : wr.cell? ⟨tb, 0, none⟩ = some (.int .i64 0)
  r1 : wr.cell? ⟨tb, 1, none⟩ = some (.slice none 0 0)
  g0 : wr.frozen? ⟨tb, 0, none⟩ = false
  g1 : wr.frozen? ⟨tb, 1, none⟩ = false
  own : OwnE wr (tb + 1) (.slice A es.length c) es
  gr : w.grownBy wr (some rb)
  o1 : rb < tb
  o3 : w.heap.size ≤ tb
  o4 : tb < wr.heap.size
section
variable {w wr w1 : World} {rb tb : Nat} {n : Int} {A : Option Addr} {c : Nat} {es : List (Int × Int)}
theorem PtBox.readOn (h : PtBox w wr rb tb A c es) (p m : Nat) : PtBox w (readOn wr rb p m) rb tb A c es := by
  have o1 := h.o1
  exact ⟨(readOn_cell _ _ _ _ _ (by simp; omega)).trans h.r0, (readOn_cell _ _ _ _ _ (by simp; omega)).trans h.r1, (readOn_frozen ..).trans h.g0, (readOn_frozen ..).trans h.g1,
   readOn_own h.own _ _ _ (by omega), grown_trans h.gr (readOn_grown ..), h.o1, h.o3, by rw [readOn_size]; exact h.o4⟩
theorem PtBox.start {t : TypeId} (hr : rb < w.heap.size) (own : OwnE w1 (w.alloc (.cells #[.int .i64 0, .slice none 0 0] t)).heap.size (.slice A es.length c) es)
    (hg : (w.alloc (.cells #[.int .i64 0, .slice none 0 0] t)).grownBy w1 (some rb)) : PtBox w w1 rb w.heap.size A c es := by
  have hs := hg.size
  simp only [World.size_alloc] at hs own
  have ht : w1.heap[w.heap.size]? = (w.alloc (.cells #[.int .i64 0, .slice none 0 0] t)).heap[w.heap.size]? := hg.block _ (by simp) (by simp; omega)
  refine ⟨?_, ?_, ?_, ?_, own, grown_trans (World.grownBy_alloc _ _ _) hg, hr, Nat.le_refl _, by omega⟩
  · rw [World.cell?_of_block (w := w.alloc (.cells #[.int .i64 0, .slice none 0 0] t)) ht, World.cell?_alloc_at _ _ _ _ rfl]; rfl
  · rw [World.cell?_of_block (w := w.alloc (.cells #[.int .i64 0, .slice none 0 0] t)) ht, World.cell?_alloc_at _ _ _ _ rfl]; rfl
  · rw [World.frozen?_of_block (w := w.alloc (.cells #[.int .i64 0, .slice none 0 0] t)) ht]; exact World.frozen?_alloc_at _ _ _ _ rfl
  · rw [World.frozen?_of_block (w := w.alloc (.cells #[.int .i64 0, .slice none 0 0] t)) ht]; exact World.frozen?_alloc_at _ _ _ _ rfl
theorem PtBox.result (h : PtBox w wr rb tb A c es) {B : Option Addr} {l cap p q : Nat} {x y : Int} (hr : Rd wr rb B l cap q) (hq : q ≤ p + 200) (h1 : 1 ≤ n) (h7 : n ≤ 7) (hle : es.length ≤ 20) (x1 : -1000 ≤ x) (x2 : x ≤ 1000) (y1 : -1000 ≤ y) (y2 : y ≤ 1000) :
    DrawnPt w rb B l cap p (.returned (.tuple #[.agg #[.int .i64 n, .slice A es.length c], .int .i64 x, .int .i64 y])) ((wr.setCell ⟨tb, 0, none⟩ (.int .i64 n)).setCell ⟨tb, 1, none⟩ (.slice A es.length c)) := by
  have o1 := h.o1
  have o3 := h.o3
  refine ⟨n, A, c, es, x, y, q, rfl, ((h.own.more (by omega)).far ?_ _).far ?_ _, h1, h7, hle, x1, x2, y1, y2, ?_, hq, ?_⟩
  · intro k hk; have := (World.ownsRow.lt h.own k hk).1; simp; omega
  · intro k hk; have := (World.ownsRow.lt h.own k hk).1; simp; omega
  · exact hr.keep (((Below.refl tb wr).setCell (by simp) _).setCell (by simp) _) o1
  · exact grown_below h.gr (((Below.refl tb wr).setCell (by simp) _).setCell (by simp) _) o3
end

set_option maxHeartbeats 4000000 in
theorem l20Point_any (rb : Nat) (B : Option Addr) (l cap p : Nat) (w : World) (h : Rd w rb B l cap p) (hp : p ≤ 800000) :
    Calls Try.prog 61 #[.pointer (some ⟨rb, 0, none⟩)] w (DrawnPt w rb B l cap p) := by
  have hrb := h.lt
  have H1 := h.keep ((Below.refl w.heap.size w).alloc (Nat.le_refl _) (.cells #[.int .i64 0, .slice none 0 0] 25)) hrb
  go_enter Try.func61, Try.ntmps61
  go_wp2_with fail
  refine (l20Net_any _ _ _ _ _ _ _ H1 (by omega) (by omega) (by omega)).mono ?_
  rintro e1 w1 ⟨n, A, c, es, q, rfl, own, n1, n7, hle, H2, hq, hg⟩
  have NB := Lib.hid (PtBox.start hrb own hg)
  clear H1 own hg
  generalize hT : w.heap.size = T at *
  clear hT
  go_wp2_with fail
  refine (pick_any _ _ _ _ _ _ _ H2 (by omega) (by omega)).mono ?_
  rintro e2 w2 ⟨x0, m2, rfl, a0, b0, -, rfl⟩
  have b0 := b0 (by omega)
  have H3 := H2.next m2
  replace NB := Lib.hid (NB.out.readOn (q) m2)
  clear H2
  generalize readOn w1 rb (q) m2 = w2 at *
  go_wp2_with fail
  refine (pick_any _ _ _ _ _ _ _ H3 (by omega) (by omega)).mono ?_
  rintro e3 w3 ⟨x1, m3, rfl, a1, b1, -, rfl⟩
  have b1 := b1 (by omega)
  have H4 := H3.next m3
  replace NB := Lib.hid (NB.out.readOn (q + 1) m3)
  clear H3
  generalize readOn w2 rb (q + 1) m3 = w3 at *
  go_wp2_with fail
  refine (pick_any _ _ _ _ _ _ _ H4 (by omega) (by omega)).mono ?_
  rintro e4 w4 ⟨x2, m4, rfl, a2, b2, -, rfl⟩
  have b2 := b2 (by omega)
  have H5 := H4.next m4
  replace NB := Lib.hid (NB.out.readOn (q + 1 + 1) m4)
  clear H4
  generalize readOn w3 rb (q + 1 + 1) m4 = w4 at *
  go_wp2_with fail
  refine (pick_any _ _ _ _ _ _ _ H5 (by omega) (by omega)).mono ?_
  rintro e5 w5 ⟨x3, m5, rfl, a3, b3, -, rfl⟩
  have b3 := b3 (by omega)
  have H6 := H5.next m5
  replace NB := Lib.hid (NB.out.readOn (q + 1 + 1 + 1) m5)
  clear H5
  generalize readOn w4 rb (q + 1 + 1 + 1) m5 = w5 at *
  obtain ⟨r0, r1, g0, g1, -, -, o1, o3, o4⟩ := NB.out
  go_wp2_with fail
  refine bodyPost_ret (v := .tuple #[.agg #[.int .i64 n, .slice A es.length c], .int .i64 (x0 - 2 + x1 / 39), .int .i64 (x2 - 2 - x3 / 39 * 5)]) (by simp [results, Try.results61, go_sem, *]) rfl ?_
  exact NB.out.result H6 (by omega) (by omega) (by omega) (by omega) (by omega) (by omega) (by omega) (by omega)

set_option maxHeartbeats 2000000 in
theorem drawByStates_any (A : Option Addr) (l cap : Nat) (w : World) (hb : BytesIn w w.heap.size A l) (hl : l ≤ 1048576) (hc : l ≤ cap) :
    Calls Try.prog 15 #[.slice A l cap] w (GotNetPt w) := by
  have hbox := (Below.refl w.heap.size w).alloc (Nat.le_refl _) (.cells #[.int .i64 0, .slice none 0 0] 25)
  have hb' : BytesIn (w.alloc (.cells #[.int .i64 0, .slice none 0 0] 25)) (w.alloc (.cells #[.int .i64 0, .slice none 0 0] 25)).heap.size A l := (hb.keep fun p hp => hbox.cell hp).more (by simp)
  go_enter Try.func15, Try.ntmps15
  go_wp2_with fail
  refine (open_any _ _ _ _ hb' hl hc).mono ?_
  rintro e1 w1 ⟨rb, B, l1, c1, rfl, H1, hge, hb1⟩
  simp only [World.size_alloc] at hge
  go_wp2_with fail
  refine (l20Point_any _ _ _ _ _ _ H1 (by omega)).mono ?_
  rintro e2 w2 ⟨n, A2, c2, es, x, y, q, rfl, own, n1, n7, hle, x1, x2, y1, y2, H2, hq, hg⟩
  obtain ⟨q0, q1⟩ := tbox hb1 hg (by omega) 0
  obtain ⟨q2, q3⟩ := tbox hb1 hg (by omega) 1
  have hbel := tbelow hb1 hg (by omega)
  have hs := hb1.size
  simp only [World.size_alloc] at hs
  have q0' : w2.cell? ⟨w.heap.size, 0, none⟩ = some (.int .i64 0) := q0
  have q2' : w2.cell? ⟨w.heap.size, 1, none⟩ = some (.slice none 0 0) := q2
  clear q0 q2
  go_wp2_with fail
  refine bodyPost_ret (v := .tuple #[.agg #[.int .i64 n, .slice A2 es.length c2], .int .i64 x, .int .i64 y]) (by simp [results, Try.results15, go_sem, *]) rfl ?_
  exact ⟨n, A2, c2, es, x, y, rfl, ((own.more (by omega)).far (fun k hk => by have := (World.ownsRow.lt own k hk).1; simp; omega) _).far (fun k hk => by have := (World.ownsRow.lt own k hk).1; simp; omega) _, n1, n7, hle, x1, x2, y1, y2, (hbel.setCell (by simp) _).setCell (by simp) _⟩

set_option maxHeartbeats 2000000 in
theorem drawByBases_any (A : Option Addr) (l cap : Nat) (w : World) (hb : BytesIn w w.heap.size A l) (hl : l ≤ 1048576) (hc : l ≤ cap) :
    Calls Try.prog 21 #[.slice A l cap] w (GotNetPt w) := by
  have hbox := (Below.refl w.heap.size w).alloc (Nat.le_refl _) (.cells #[.int .i64 0, .slice none 0 0] 25)
  have hb' : BytesIn (w.alloc (.cells #[.int .i64 0, .slice none 0 0] 25)) (w.alloc (.cells #[.int .i64 0, .slice none 0 0] 25)).heap.size A l := (hb.keep fun p hp => hbox.cell hp).more (by simp)
  go_enter Try.func21, Try.ntmps21
  go_wp2_with fail
  refine (open_any _ _ _ _ hb' hl hc).mono ?_
  rintro e1 w1 ⟨rb, B, l1, c1, rfl, H1, hge, hb1⟩
  simp only [World.size_alloc] at hge
  go_wp2_with fail
  refine (l20Point_any _ _ _ _ _ _ H1 (by omega)).mono ?_
  rintro e2 w2 ⟨n, A2, c2, es, x, y, q, rfl, own, n1, n7, hle, x1, x2, y1, y2, H2, hq, hg⟩
  obtain ⟨q0, q1⟩ := tbox hb1 hg (by omega) 0
  obtain ⟨q2, q3⟩ := tbox hb1 hg (by omega) 1
  have hbel := tbelow hb1 hg (by omega)
  have hs := hb1.size
  simp only [World.size_alloc] at hs
  have q0' : w2.cell? ⟨w.heap.size, 0, none⟩ = some (.int .i64 0) := q0
  have q2' : w2.cell? ⟨w.heap.size, 1, none⟩ = some (.slice none 0 0) := q2
  clear q0 q2
  go_wp2_with fail
  refine bodyPost_ret (v := .tuple #[.agg #[.int .i64 n, .slice A2 es.length c2], .int .i64 x, .int .i64 y]) (by simp [results, Try.results21, go_sem, *]) rfl ?_
  exact ⟨n, A2, c2, es, x, y, rfl, ((own.more (by omega)).far (fun k hk => by have := (World.ownsRow.lt own k hk).1; simp; omega) _).far (fun k hk => by have := (World.ownsRow.lt own k hk).1; simp; omega) _, n1, n7, hle, x1, x2, y1, y2, (hbel.setCell (by simp) _).setCell (by simp) _⟩

set_option maxHeartbeats 2000000 in
theorem drawByEdges_any (A : Option Addr) (l cap : Nat) (w : World) (hb : BytesIn w w.heap.size A l) (hl : l ≤ 1048576) (hc : l ≤ cap) :
    Calls Try.prog 23 #[.slice A l cap] w (GotNetPt w) := by
  have hbox := (Below.refl w.heap.size w).alloc (Nat.le_refl _) (.cells #[.int .i64 0, .slice none 0 0] 25)
  have hb' : BytesIn (w.alloc (.cells #[.int .i64 0, .slice none 0 0] 25)) (w.alloc (.cells #[.int .i64 0, .slice none 0 0] 25)).heap.size A l := (hb.keep fun p hp => hbox.cell hp).more (by simp)
  go_enter Try.func23, Try.ntmps23
  go_wp2_with fail
  refine (open_any _ _ _ _ hb' hl hc).mono ?_
  rintro e1 w1 ⟨rb, B, l1, c1, rfl, H1, hge, hb1⟩
  simp only [World.size_alloc] at hge
  go_wp2_with fail
  refine (l20Point_any _ _ _ _ _ _ H1 (by omega)).mono ?_
  rintro e2 w2 ⟨n, A2, c2, es, x, y, q, rfl, own, n1, n7, hle, x1, x2, y1, y2, H2, hq, hg⟩
  obtain ⟨q0, q1⟩ := tbox hb1 hg (by omega) 0
  obtain ⟨q2, q3⟩ := tbox hb1 hg (by omega) 1
  have hbel := tbelow hb1 hg (by omega)
  have hs := hb1.size
  simp only [World.size_alloc] at hs
  have q0' : w2.cell? ⟨w.heap.size, 0, none⟩ = some (.int .i64 0) := q0
  have q2' : w2.cell? ⟨w.heap.size, 1, none⟩ = some (.slice none 0 0) := q2
  clear q0 q2
  go_wp2_with fail
  refine bodyPost_ret (v := .tuple #[.agg #[.int .i64 n, .slice A2 es.length c2], .int .i64 x, .int .i64 y]) (by simp [results, Try.results23, go_sem, *]) rfl ?_
  exact ⟨n, A2, c2, es, x, y, rfl, ((own.more (by omega)).far (fun k hk => by have := (World.ownsRow.lt own k hk).1; simp; omega) _).far (fun k hk => by have := (World.ownsRow.lt own k hk).1; simp; omega) _, n1, n7, hle, x1, x2, y1, y2, (hbel.setCell (by simp) _).setCell (by simp) _⟩

set_option maxHeartbeats 2000000 in
theorem drawCountAllBack_any (A : Option Addr) (l cap : Nat) (w : World) (hb : BytesIn w w.heap.size A l) (hl : l ≤ 1048576) (hc : l ≤ cap) :
    Calls Try.prog 29 #[.slice A l cap] w (GotNetE w) := by
  have hbox := (Below.refl w.heap.size w).alloc (Nat.le_refl _) (.cells #[.int .i64 0, .slice none 0 0] 25)
  have hb' : BytesIn (w.alloc (.cells #[.int .i64 0, .slice none 0 0] 25)) (w.alloc (.cells #[.int .i64 0, .slice none 0 0] 25)).heap.size A l := (hb.keep fun p hp => hbox.cell hp).more (by simp)
  go_enter Try.func29, Try.ntmps29
  go_wp2_with fail
  refine (open_any _ _ _ _ hb' hl hc).mono ?_
  rintro e1 w1 ⟨rb, B, l1, c1, rfl, H1, hge, hb1⟩
  simp only [World.size_alloc] at hge
  have hrb := H1.lt
  have hs1 := hb1.size
  simp only [World.size_alloc] at hs1
  go_wp2_with fail
  refine (l20Small_any _ _ _ _ _ _ _ H1 (by omega) (by omega) (by omega)).mono ?_
  rintro e2 w2 ⟨n, A2, c2, es, q, rfl, ed, n1, n7, hle, hcp, H2, hq, hg⟩
  have hs2 := hg.size
  obtain ⟨q0, q1⟩ := tbox hb1 hg (by omega) 0
  obtain ⟨q2, q3⟩ := tbox hb1 hg (by omega) 1
  have hbel := tbelow hb1 hg (by omega)
  have q0' : w2.cell? ⟨w.heap.size, 0, none⟩ = some (.int .i64 0) := q0
  have q2' : w2.cell? ⟨w.heap.size, 1, none⟩ = some (.slice none 0 0) := q2
  clear q0 q2
  have HED := Lib.hid ed
  clear ed
  go_wp2_with fail
  refine bodyPost_ret (v := .agg #[.int .i64 n, .slice A2 es.length c2]) (by simp [results, Try.results29, go_sem, *]) rfl ?_
  exact ⟨n, A2, c2, es, rfl, HED.out.box (tb := w.heap.size) (by omega) (by omega) (two_cells _ _ _ _) (by simp [World.setCell] <;> omega), n1, n7, hle, hcp, (hbel.setCell (by simp) _).setCell (by simp) _⟩

theorem drawBasesOf_any (A : Option Addr) (l cap : Nat) (w : World) (hb : BytesIn w w.heap.size A l) (hl : l ≤ 1048576) (hc : l ≤ cap) :
    Calls Try.prog 39 #[.slice A l cap] w (GotNet w) := by
  have hbox := (Below.refl w.heap.size w).alloc (Nat.le_refl _) (.cells #[.int .i64 0, .slice none 0 0] 25)
  have hb' : BytesIn (w.alloc (.cells #[.int .i64 0, .slice none 0 0] 25)) (w.alloc (.cells #[.int .i64 0, .slice none 0 0] 25)).heap.size A l := (hb.keep fun p hp => hbox.cell hp).more (by simp)
  go_enter Try.func39, Try.ntmps39
  go_wp2_with fail
  refine (open_any _ _ _ _ hb' hl hc).mono ?_
  rintro e1 w1 ⟨rb, B, l1, c1, rfl, H1, hge, hb1⟩
  simp only [World.size_alloc] at hge
  go_wp2_with fail
  refine (l20Net_any _ _ _ _ _ _ _ H1 (by omega) (by omega) (by omega)).mono ?_
  rintro e2 w2 ⟨n, A2, c2, es, q, rfl, own, n1, n7, hle, H2, hq, hg⟩
  obtain ⟨q0, q1⟩ := tbox hb1 hg (by omega) 0
  obtain ⟨q2, q3⟩ := tbox hb1 hg (by omega) 1
  have hbel := tbelow hb1 hg (by omega)
  have hs := hb1.size
  simp only [World.size_alloc] at hs
  have q0' : w2.cell? ⟨w.heap.size, 0, none⟩ = some (.int .i64 0) := q0
  have q2' : w2.cell? ⟨w.heap.size, 1, none⟩ = some (.slice none 0 0) := q2
  clear q0 q2
  go_wp2_with fail
  refine bodyPost_ret (v := .agg #[.int .i64 n, .slice A2 es.length c2]) (by simp [results, Try.results39, go_sem, *]) rfl ?_
  exact ⟨n, A2, c2, es, rfl, ((own.more (by omega)).far (fun k hk => by have := (World.ownsRow.lt own k hk).1; simp; omega) _).far (fun k hk => by have := (World.ownsRow.lt own k hk).1; simp; omega) _, n1, n7, hle, (hbel.setCell (by simp) _).setCell (by simp) _⟩
end Go.Proofs.Ytdacfeebidhgnab
