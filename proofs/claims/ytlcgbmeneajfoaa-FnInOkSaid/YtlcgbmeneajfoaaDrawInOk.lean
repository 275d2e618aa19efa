/- The draw of a family and a state. -/
import Derived.Test.YtlcgbmeneajfoaaDraw8
namespace Go.Proofs.Ytlcgbmeneajfoaa
open Go.RowKit
set_option maxRecDepth 100000

/-- A drawn family in a box of its own, behind the reader; the result's box, which has not been written yet, before it. -/
structure FamBox3 (w wr : World) (rb nb : Nat) (n : Int) (A : Option Addr) (c : Nat) (es : List Int) : Prop where
  n0 : wr.cell? ⟨nb, 0, none⟩ = some (.int .i64 n)
  n1 : wr.cell? ⟨nb, 1, none⟩ = some (.slice A es.length c)
  r0 : wr.cell? ⟨w.heap.size, 0, none⟩ = some (.int .i64 0)
  r1 : wr.cell? ⟨w.heap.size, 1, none⟩ = some (.slice none 0 0)
  g0 : wr.frozen? ⟨w.heap.size, 0, none⟩ = false
  g1 : wr.frozen? ⟨w.heap.size, 1, none⟩ = false
  own : OwnI wr (rb + 1) (.slice A es.length c) es
  bel : Below w.heap.size w wr
  o1 : w.heap.size < rb
  o2 : rb < nb
  o4 : nb < wr.heap.size
section
variable {w wr : World} {rb nb : Nat} {n : Int} {A : Option Addr} {c : Nat} {es : List Int}
theorem FamBox3.readOn (h : FamBox3 w wr rb nb n A c es) (p m : Nat) : FamBox3 w (readOn wr rb p m) rb nb n A c es := by
  have o1 := h.o1
  have o2 := h.o2
  exact ⟨(readOn_cell _ _ _ _ _ (by simp; omega)).trans h.n0, (readOn_cell _ _ _ _ _ (by simp; omega)).trans h.n1,
   (readOn_cell _ _ _ _ _ (by simp; omega)).trans h.r0, (readOn_cell _ _ _ _ _ (by simp; omega)).trans h.r1, (readOn_frozen ..).trans h.g0, (readOn_frozen ..).trans h.g1,
   readOn_ownI h.own _ _ _ (by omega), h.bel.trans (below_of_grown (readOn_grown wr rb p m) h.bel.size (by omega)), h.o1, h.o2, by rw [readOn_size]; exact h.o4⟩
theorem FamBox3.drew (h : FamBox3 w wr rb nb n A c es) : FamBox3 w wr.drew rb nb n A c es :=
  ⟨h.n0, h.n1, h.r0, h.r1, h.g0, h.g1, h.own, h.bel.drew, h.o1, h.o2, h.o4⟩
end

def GotInOk (w : World) (e : Ending) (w' : World) : Prop :=
  ∃ (n : Int) (A : Option Addr) (c : Nat) (es : List Int) (s : Int), e = .returned (.tuple #[.agg #[.int .i64 n, .slice A es.length c], .int .i64 s]) ∧ OwnI w' w.heap.size (.slice A es.length c) es ∧ -1 ≤ n ∧ n ≤ 7 ∧ es.length ≤ 65 ∧ -70 ≤ s ∧ s ≤ 127 ∧ Below w.heap.size w w'
theorem FamBox3.state {w wr : World} {rb nb : Nat} {n : Int} {A : Option Addr} {c : Nat} {es : List Int} (h : FamBox3 w wr rb nb n A c es) {s : Int} (h1 : -1 ≤ n) (h7 : n ≤ 7) (hle : es.length ≤ 65)
    (s1 : -70 ≤ s) (s2 : s ≤ 127) :
    GotInOk w (.returned (.tuple #[.agg #[.int .i64 n, .slice A es.length c], .int .i64 s])) ((wr.setCell ⟨w.heap.size, 0, none⟩ (.int .i64 n)).setCell ⟨w.heap.size, 1, none⟩ (.slice A es.length c)) := by
  have o1 := h.o1
  have o2 := h.o2
  refine ⟨n, A, c, es, s, rfl, ((h.own.more (by omega)).far ?_ _).far ?_ _, h1, h7, hle, s1, s2, (h.bel.setCell (by simp) _).setCell (by simp) _⟩
  · intro k hk; have := (World.ownsRow.lt h.own k hk).1; simp; omega
  · intro k hk; have := (World.ownsRow.lt h.own k hk).1; simp; omega

set_option maxHeartbeats 4000000 in
theorem drawInOk_any (A : Option Addr) (l cap : Nat) (w : World) (hb : BytesIn w w.heap.size A l) (hl : l ≤ 1048576) (hc : l ≤ cap) :
    Calls Try.prog 40 #[.slice A l cap] w (GotInOk w) := by
  have hbox := (Below.refl w.heap.size w).alloc (Nat.le_refl _) (.cells #[.int .i64 0, .slice none 0 0] 27)
  have hb' : BytesIn (w.alloc (.cells #[.int .i64 0, .slice none 0 0] 27)) (w.alloc (.cells #[.int .i64 0, .slice none 0 0] 27)).heap.size A l := (hb.keep fun p hp => hbox.cell hp).more (by simp)
  go_enter Try.func40, Try.ntmps40
  go_wp2_with fail
  refine (open_any _ _ _ _ hb' hl hc).mono ?_
  rintro e1 w1 ⟨rb, B, l1, c1, rfl, H1, hge, hb1⟩
  simp only [World.size_alloc] at hge
  go_wp2_with fail
  refine (l20Fam_any _ _ _ _ _ (9 : Int) _ H1 (by omega) (by omega) (by omega)).mono ?_
  rintro e2 w2 ⟨n, A2, c2, es, q, rfl, own, n1, n7, hle, H2, hq, hg⟩
  obtain ⟨q0, q1⟩ := tbox hb1 hg (by omega) 0
  obtain ⟨q2, q3⟩ := tbox hb1 hg (by omega) 1
  have hbel := tbelow hb1 hg (by omega)
  have hs := hb1.size
  simp only [World.size_alloc] at hs
  have hrb := H1.lt
  have hsg := hg.size
  have hbx := (Below.refl w2.heap.size w2).alloc (Nat.le_refl _) (.cells #[.int .i64 n, .slice A2 es.length c2] 27)
  have NB : FamBox3 w (w2.alloc (.cells #[.int .i64 n, .slice A2 es.length c2] 27)) rb w2.heap.size n A2 c2 es := by
    refine ⟨by rw [World.cell?_alloc_at _ _ _ _ rfl]; rfl, by rw [World.cell?_alloc_at _ _ _ _ rfl]; rfl, (hbx.cell (p := ⟨w.heap.size, 0, none⟩) (by simp; omega)).trans q0, (hbx.cell (p := ⟨w.heap.size, 1, none⟩) (by simp; omega)).trans q2,
      (hbx.frozen (p := ⟨w.heap.size, 0, none⟩) (by simp; omega)).trans q1, (hbx.frozen (p := ⟨w.heap.size, 1, none⟩) (by simp; omega)).trans q3, (own.more (by omega)).below hbx own.lt, hbel.trans (hbx.mono hbel.size), by omega, by omega, by simp⟩
  have H3 := H2.keep hbx H2.lt
  clear H1 H2 own hg q0 q1 q2 q3 hbel hbx hb1 hb hbox hb' hge hs
  obtain ⟨M0, hM0, y0, y8⟩ : ∃ M0 : Int, (if (6 : Int) < n then (6 : Int) else n) = M0 ∧ -1 ≤ M0 ∧ M0 ≤ 6 := by
    refine ⟨_, rfl, ?_⟩
    split <;> omega
  obtain ⟨P0, hP0, z0, z8⟩ : ∃ P0 : Int, (if M0 < (0 : Int) then (0 : Int) else M0) = P0 ∧ 0 ≤ P0 ∧ P0 ≤ 6 := by
    refine ⟨_, rfl, ?_⟩
    split <;> omega
  obtain ⟨P1, hP1, p1, p2⟩ : ∃ P1 : Int, IntKind.i64.wrap (2 ^ P0.toNat) = P1 ∧ 1 ≤ P1 ∧ P1 ≤ 64 := by
    refine ⟨_, rfl, ?_⟩
    rcases (show P0 = 0 ∨ P0 = 1 ∨ P0 = 2 ∨ P0 = 3 ∨ P0 = 4 ∨ P0 = 5 ∨ P0 = 6 by omega) with h | h | h | h | h | h | h <;> rw [h] <;> decide
  go_wp2_with fail
  obtain ⟨W, hW⟩ : ∃ W, W = w2.alloc (.cells #[.int .i64 n, .slice A2 es.length c2] 27) := ⟨_, rfl⟩
  rw [← hW] at NB H3 ⊢
  clear hW hsg
  generalize hnb : w2.heap.size = nb at *
  obtain ⟨c0, c1, r0, r1, g0, g1, _, _, o1, o2, o4⟩ := id NB
  have c0' := NB.drew.n0
  have c1' := NB.drew.n1
  have hTn : w.heap.size ≠ nb := by omega
  clear hnb
  go_region_held3 (fun w' => w'.cell? ⟨nb, 0, none⟩ = some (.int .i64 n) ∧ w'.cell? ⟨nb, 1, none⟩ = some (.slice A2 es.length c2)) (first | go_keep) (first
    | (go_simp; go_at_call 68; (with_reducible refine (pick_any _ _ _ _ _ (40 : Int) _ ((H3.drew.next m6).next m7) (by omega) (by omega)).mono ?_); rintro e8 w8 ⟨x8, m8, rfl, a8, b8, -, rfl⟩; have b8 := b8 (by omega); have NC := NE7.readOn (q + 2) m8; have wt8 : x8.tdiv 39 = x8 / 39 := Int.tdiv_eq_ediv_of_nonneg a8; have wu8 : IntKind.i64.wrap (x8 / 39) = x8 / 39 := IntWalk.i64_in _ (by omega); have wv8 : IntKind.i64.wrap (x8 / 39 * 70) = x8 / 39 * 70 := IntWalk.i64_in _ (by omega); have ws8 : IntKind.i64.wrap (x6 + x7 / 29 * 64 - x8 / 39 * 70) = x6 + x7 / 29 * 64 - x8 / 39 * 70 := IntWalk.i64_in _ (by omega); have d0 := NC.n0; have d1 := NC.n1; have d2 := NC.r0; have d3 := NC.r1; have d4 := NC.g0; have d5 := NC.g1)
    | (go_simp; go_at_call 68; (with_reducible refine (pick_any _ _ _ _ _ (30 : Int) _ (H3.drew.next m6) (by omega) (by omega)).mono ?_); rintro e7 w7 ⟨x7, m7, rfl, a7, b7, -, rfl⟩; have b7 := b7 (by omega); have NE7 := NE6.readOn (q + 1) m7; have wt7 : x7.tdiv 29 = x7 / 29 := Int.tdiv_eq_ediv_of_nonneg a7; have wu7 : IntKind.i64.wrap (x7 / 29) = x7 / 29 := IntWalk.i64_in _ (by omega); have wv7 : IntKind.i64.wrap (x7 / 29 * 64) = x7 / 29 * 64 := IntWalk.i64_in _ (by omega); have ws7 : IntKind.i64.wrap (x6 + x7 / 29 * 64) = x6 + x7 / 29 * 64 := IntWalk.i64_in _ (by omega); have v0 := NE7.n0; have v1 := NE7.n1)
    | (go_simp; go_at_call 68; (with_reducible refine (pick_any _ _ _ _ _ P1 _ H3.drew (by omega) (by omega)).mono ?_); rintro e6 w6 ⟨x6, m6, rfl, a6, b6, -, rfl⟩; have b6 := b6 (by omega); have NE6 := NB.drew.readOn q m6; have u0 := NE6.n0; have u1 := NE6.n1))
  all_goals
    go_wp2_with fail
    refine bodyPost_ret (v := .tuple #[.agg #[.int .i64 n, .slice A2 es.length c2], .int .i64 (x6 + x7 / 29 * 64 - x8 / 39 * 70)]) (by simp [results, Try.results40, go_sem, *]) rfl ?_
    exact NC.state (by omega) (by omega) (by omega) (by omega) (by omega)
end Go.Proofs.Ytlcgbmeneajfoaa
