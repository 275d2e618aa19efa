/- Draws of chapter 10. -/
import Derived.Test.YtdacfeebidhgnabDrawSm2
namespace Go.Proofs.Ytdacfeebidhgnab
open Go.RowKit
set_option maxRecDepth 100000

/-- What a draw of a net with few edges leaves; and with a number. -/
def GotNetE (w : World) (e : Ending) (w' : World) : Prop :=
  ∃ (n : Int) (A : Option Addr) (c : Nat) (es : List (Int × Int)), e = .returned (.agg #[.int .i64 n, .slice A es.length c]) ∧ EdgesOff w' w.heap.size w'.heap.size A es ∧ 1 ≤ n ∧ n ≤ 7 ∧ es.length ≤ 20 ∧ es.length ≤ c ∧ Below w.heap.size w w'
def GotNetNumE (w : World) (e : Ending) (w' : World) : Prop :=
  ∃ (n : Int) (A : Option Addr) (c : Nat) (es : List (Int × Int)) (s : Int), e = .returned (.tuple #[.agg #[.int .i64 n, .slice A es.length c], .int .i64 s]) ∧ EdgesOff w' w.heap.size w'.heap.size A es ∧ 1 ≤ n ∧ n ≤ 7 ∧ es.length ≤ 20 ∧ es.length ≤ c ∧ -1000 ≤ s ∧ s ≤ 1000 ∧ Below w.heap.size w w'
theorem EdgesOff.box {w w' : World} {lo hi tb lo' : Nat} {A : Option Addr} {es : List (Int × Int)} (h : EdgesOff w lo hi A es) (hb : tb < lo) (hl : lo' ≤ lo) (hw : ∀ p : Addr, p.block ≠ tb → w'.cell? p = w.cell? p) (hs : hi ≤ w'.heap.size) : EdgesOff w' lo' w'.heap.size A es :=
  fun k e he => by
    obtain ⟨b, off, hA, h1, h2, h3, h4⟩ := (h.keep fun p h1 _ => hw p (by omega)) k e he
    exact ⟨b, off, hA, by omega, by omega, h3, h4⟩
theorem two_cells (w : World) (tb : Nat) (u v : Value) (p : Addr) (h : p.block ≠ tb) : ((w.setCell ⟨tb, 0, none⟩ u).setCell ⟨tb, 1, none⟩ v).cell? p = w.cell? p :=
  (World.cell?_setCell_far _ _ _ _ (by simp; exact fun e => h e.symm)).trans (World.cell?_setCell_far _ _ _ _ (by simp; exact fun e => h e.symm))

set_option maxHeartbeats 2000000 in
theorem drawCountPainted_any (A : Option Addr) (l cap : Nat) (w : World) (hb : BytesIn w w.heap.size A l) (hl : l ≤ 1048576) (hc : l ≤ cap) :
    Calls Try.prog 33 #[.slice A l cap] w (GotNetNumE w) := by
  have hbox := (Below.refl w.heap.size w).alloc (Nat.le_refl _) (.cells #[.int .i64 0, .slice none 0 0] 25)
  have hb' : BytesIn (w.alloc (.cells #[.int .i64 0, .slice none 0 0] 25)) (w.alloc (.cells #[.int .i64 0, .slice none 0 0] 25)).heap.size A l := (hb.keep fun p hp => hbox.cell hp).more (by simp)
  go_enter Try.func33, Try.ntmps33
  go_wp2_with fail
  refine (open_any _ _ _ _ hb' hl hc).mono ?_
  rintro e1 w1 ⟨rb, B, l1, c1, rfl, H1, hge, hb1⟩
  simp only [World.size_alloc] at hge
  have hrb := H1.lt
  have hs1 := hb1.size
  simp only [World.size_alloc] at hs1
  go_wp2_with fail
  refine (l20Small_any _ _ _ _ _ _ _ H1 (by omega) (by omega) (by omega)).mono ?_
  rintro e2 w2 ⟨n, A2, c2, es, q, rfl, ed, n1, n7, hle, hcp, H2, hq, hg⟩
  have hs2 := hg.size
  go_wp2_with fail
  refine (pick_any _ _ _ _ _ _ _ H2 (by omega) (by omega)).mono ?_
  rintro e3 w3 ⟨x0, m3, rfl, a0, b0, -, rfl⟩
  have b0 := b0 (by omega)
  have H3 := H2.next m3
  have G3 := grown_trans hg (readOn_grown w2 rb (q) m3)
  have ed3 := ed.keep (fun p h1 h2 => readOn_cell w2 rb (q) m3 p (by omega))
  have hz3 := readOn_size w2 rb (q) m3
  clear hg ed H2
  generalize readOn w2 rb (q) m3 = w3 at *
  have hg := G3
  have ed := ed3
  clear G3 ed3
  go_wp2_with fail
  refine (pick_any _ _ _ _ _ _ _ H3 (by omega) (by omega)).mono ?_
  rintro e4 w4 ⟨x1, m4, rfl, a1, b1, -, rfl⟩
  have b1 := b1 (by omega)
  have H4 := H3.next m4
  have G4 := grown_trans hg (readOn_grown w3 rb (q + 1) m4)
  have ed4 := ed.keep (fun p h1 h2 => readOn_cell w3 rb (q + 1) m4 p (by omega))
  have hz4 := readOn_size w3 rb (q + 1) m4
  clear hg ed H3
  generalize readOn w3 rb (q + 1) m4 = w4 at *
  have hg := G4
  have ed := ed4
  clear G4 ed4
  go_wp2_with fail
  refine (pick_any _ _ _ _ _ _ _ H4 (by omega) (by omega)).mono ?_
  rintro e5 w5 ⟨x2, m5, rfl, a2, b2, -, rfl⟩
  have b2 := b2 (by omega)
  have H5 := H4.next m5
  have G5 := grown_trans hg (readOn_grown w4 rb (q + 1 + 1) m5)
  have ed5 := ed.keep (fun p h1 h2 => readOn_cell w4 rb (q + 1 + 1) m5 p (by omega))
  have hz5 := readOn_size w4 rb (q + 1 + 1) m5
  clear hg ed H4
  generalize readOn w4 rb (q + 1 + 1) m5 = w5 at *
  have hg := G5
  have ed := ed5
  clear G5 ed5
  obtain ⟨q0, q1⟩ := tbox hb1 hg (by omega) 0
  obtain ⟨q2, q3⟩ := tbox hb1 hg (by omega) 1
  have hbel := tbelow hb1 hg (by omega)
  have q0' : w5.cell? ⟨w.heap.size, 0, none⟩ = some (.int .i64 0) := q0
  have q2' : w5.cell? ⟨w.heap.size, 1, none⟩ = some (.slice none 0 0) := q2
  clear q0 q2
  have HED := Lib.hid ed
  clear ed
  go_wp2_with fail
  refine bodyPost_ret (v := .tuple #[.agg #[.int .i64 n, .slice A2 es.length c2], .int .i64 (x0 + x1 / 29 - x2 / 39)]) (by simp [results, Try.results33, go_sem, *]) rfl ?_
  exact ⟨n, A2, c2, es, _, rfl, HED.out.box (tb := w.heap.size) (by omega) (by omega) (two_cells _ _ _ _) (by simp [World.setCell] <;> omega), n1, n7, hle, hcp, by omega, by omega, (hbel.setCell (by simp) _).setCell (by simp) _⟩

set_option maxHeartbeats 2000000 in
theorem drawCountFlows_any (A : Option Addr) (l cap : Nat) (w : World) (hb : BytesIn w w.heap.size A l) (hl : l ≤ 1048576) (hc : l ≤ cap) :
    Calls Try.prog 37 #[.slice A l cap] w (GotNetNumE w) := by
  have hbox := (Below.refl w.heap.size w).alloc (Nat.le_refl _) (.cells #[.int .i64 0, .slice none 0 0] 25)
  have hb' : BytesIn (w.alloc (.cells #[.int .i64 0, .slice none 0 0] 25)) (w.alloc (.cells #[.int .i64 0, .slice none 0 0] 25)).heap.size A l := (hb.keep fun p hp => hbox.cell hp).more (by simp)
  go_enter Try.func37, Try.ntmps37
  go_wp2_with fail
  refine (open_any _ _ _ _ hb' hl hc).mono ?_
  rintro e1 w1 ⟨rb, B, l1, c1, rfl, H1, hge, hb1⟩
  simp only [World.size_alloc] at hge
  have hrb := H1.lt
  have hs1 := hb1.size
  simp only [World.size_alloc] at hs1
  go_wp2_with fail
  refine (l20Small_any _ _ _ _ _ _ _ H1 (by omega) (by omega) (by omega)).mono ?_
  rintro e2 w2 ⟨n, A2, c2, es, q, rfl, ed, n1, n7, hle, hcp, H2, hq, hg⟩
  have hs2 := hg.size
  go_wp2_with fail
  refine (pick_any _ _ _ _ _ _ _ H2 (by omega) (by omega)).mono ?_
  rintro e3 w3 ⟨x0, m3, rfl, a0, b0, -, rfl⟩
  have b0 := b0 (by omega)
  have H3 := H2.next m3
  have G3 := grown_trans hg (readOn_grown w2 rb (q) m3)
  have ed3 := ed.keep (fun p h1 h2 => readOn_cell w2 rb (q) m3 p (by omega))
  have hz3 := readOn_size w2 rb (q) m3
  clear hg ed H2
  generalize readOn w2 rb (q) m3 = w3 at *
  have hg := G3
  have ed := ed3
  clear G3 ed3
  go_wp2_with fail
  refine (pick_any _ _ _ _ _ _ _ H3 (by omega) (by omega)).mono ?_
  rintro e4 w4 ⟨x1, m4, rfl, a1, b1, -, rfl⟩
  have b1 := b1 (by omega)
  have H4 := H3.next m4
  have G4 := grown_trans hg (readOn_grown w3 rb (q + 1) m4)
  have ed4 := ed.keep (fun p h1 h2 => readOn_cell w3 rb (q + 1) m4 p (by omega))
  have hz4 := readOn_size w3 rb (q + 1) m4
  clear hg ed H3
  generalize readOn w3 rb (q + 1) m4 = w4 at *
  have hg := G4
  have ed := ed4
  clear G4 ed4
  go_wp2_with fail
  refine (pick_any _ _ _ _ _ _ _ H4 (by omega) (by omega)).mono ?_
  rintro e5 w5 ⟨x2, m5, rfl, a2, b2, -, rfl⟩
  have b2 := b2 (by omega)
  have H5 := H4.next m5
  have G5 := grown_trans hg (readOn_grown w4 rb (q + 1 + 1) m5)
  have ed5 := ed.keep (fun p h1 h2 => readOn_cell w4 rb (q + 1 + 1) m5 p (by omega))
  have hz5 := readOn_size w4 rb (q + 1 + 1) m5
  clear hg ed H4
  generalize readOn w4 rb (q + 1 + 1) m5 = w5 at *
  have hg := G5
  have ed := ed5
  clear G5 ed5
  obtain ⟨q0, q1⟩ := tbox hb1 hg (by omega) 0
  obtain ⟨q2, q3⟩ := tbox hb1 hg (by omega) 1
  have hbel := tbelow hb1 hg (by omega)
  have q0' : w5.cell? ⟨w.heap.size, 0, none⟩ = some (.int .i64 0) := q0
  have q2' : w5.cell? ⟨w.heap.size, 1, none⟩ = some (.slice none 0 0) := q2
  clear q0 q2
  have HED := Lib.hid ed
  clear ed
  go_wp2_with fail
  refine bodyPost_ret (v := .tuple #[.agg #[.int .i64 n, .slice A2 es.length c2], .int .i64 (1 + x0 + x1 / 29 - x2 / 39)]) (by simp [results, Try.results37, go_sem, *]) rfl ?_
  exact ⟨n, A2, c2, es, _, rfl, HED.out.box (tb := w.heap.size) (by omega) (by omega) (two_cells _ _ _ _) (by simp [World.setCell] <;> omega), n1, n7, hle, hcp, by omega, by omega, (hbel.setCell (by simp) _).setCell (by simp) _⟩

end Go.Proofs.Ytdacfeebidhgnab
