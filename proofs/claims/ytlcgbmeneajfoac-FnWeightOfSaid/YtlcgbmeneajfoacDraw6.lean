/- The draws of pivots: a net with two nodes and a place; with a state. -/
import Derived.Test.YtlcgbmeneajfoacDrawT
namespace Go.Proofs.Ytlcgbmeneajfoac
open Go.RowKit
set_option maxRecDepth 100000

def DrawnPiv (w : World) (rb : Nat) (B : Option Addr) (l cap : Nat) (e : Ending) (w' : World) : Prop :=
  ∃ (n : Int) (A : Option Addr) (c : Nat) (es : List (Int × Int)) (a b s : Int) (q : Nat), e = .returned (.tuple #[.agg #[.int .i64 n, .slice A es.length c], .int .i64 a, .int .i64 b, .int .i64 s]) ∧ OwnE w' w.heap.size (.slice A es.length c) es ∧
    1 ≤ n ∧ n ≤ 7 ∧ es.length ≤ 20 ∧ 1 ≤ a ∧ a ≤ 20 ∧ 1 ≤ b ∧ b ≤ 20 ∧ -1 ≤ s ∧ s ≤ 20 ∧ Rd w' rb B l cap q ∧ w.grownBy w' (some rb) ∧ q ≤ 950000
theorem NetBox2.piv {w wr : World} {rb tb nb : Nat} {n : Int} {A : Option Addr} {c : Nat} {es : List (Int × Int)} (h : NetBox2 w wr rb tb nb n A c es) {B : Option Addr} {l cap q : Nat} {a b s : Int} (hr : Rd wr rb B l cap q) (h1 : 1 ≤ n) (h7 : n ≤ 7) (hle : es.length ≤ 20)
    (a1 : 1 ≤ a) (a2 : a ≤ 20) (b1 : 1 ≤ b) (b2 : b ≤ 20) (s1 : -1 ≤ s) (s2 : s ≤ 20) (hq : q ≤ 950000) :
    DrawnPiv w rb B l cap (.returned (.tuple #[.agg #[.int .i64 n, .slice A es.length c], .int .i64 a, .int .i64 b, .int .i64 s])) ((wr.setCell ⟨tb, 0, none⟩ (.int .i64 n)).setCell ⟨tb, 1, none⟩ (.slice A es.length c)) := by
  have o1 := h.o1
  have o2 := h.o2
  have o3 := h.o3
  refine ⟨n, A, c, es, a, b, s, q, rfl, ((h.own.more (by omega)).far ?_ _).far ?_ _, h1, h7, hle, a1, a2, b1, b2, s1, s2, ?_, ?_, hq⟩
  · intro k hk; have := (World.ownsRow.lt h.own k hk).1; simp; omega
  · intro k hk; have := (World.ownsRow.lt h.own k hk).1; simp; omega
  · exact hr.keep (((Below.refl tb wr).setCell (by simp) _).setCell (by simp) _) o1
  · exact grown_below h.gr (((Below.refl tb wr).setCell (by simp) _).setCell (by simp) _) o3

set_option maxHeartbeats 4000000 in
theorem l20Pivot_any (rb : Nat) (B : Option Addr) (l cap p : Nat) (w : World) (h : Rd w rb B l cap p) (hp : p ≤ 800000) :
    Calls Try.prog 67 #[.pointer (some ⟨rb, 0, none⟩)] w (DrawnPiv w rb B l cap) := by
  have hrb := h.lt
  have H1 := h.keep ((Below.refl w.heap.size w).alloc (Nat.le_refl _) (.cells #[.int .i64 0, .slice none 0 0] 30)) hrb
  go_enter Try.func67, Try.ntmps67
  go_wp2_with fail
  refine (l20Terminals_q _ _ _ _ _ _ H1 (by omega)).mono ?_
  rintro e1 w1 ⟨n, A, c, es, a, b, q, rfl, own, n1, n7, hle, a1, a2, b1, b2, H2, hg, hq⟩
  have NB := NetBox2.start (n := n) (t' := 30) hrb own hg
  have H3 := H2.keep ((Below.refl w1.heap.size w1).alloc (Nat.le_refl _) (.cells #[.int .i64 n, .slice A es.length c] 30)) H2.lt
  clear H1 H2 own hg
  obtain ⟨c0, c1, r0, r1, g0, g1, _, _, o1, o2, o3, o4⟩ := id NB
  have wl : IntKind.i64.wrap ((es.length : Int) + 1) = (es.length : Int) + 1 := IntWalk.i64_in _ (by omega)
  go_wp2_with fail
  obtain ⟨W, hW⟩ : ∃ W, W = w1.alloc (.cells #[.int .i64 n, .slice A es.length c] 30) := ⟨_, rfl⟩
  clear c0 c1 r0 r1 g0 g1 o1 o2 o3 o4
  rw [← hW] at NB H3 ⊢
  clear hW
  generalize hnb : w1.heap.size = nb at *
  generalize hT : w.heap.size = T at *
  clear hnb hT
  obtain ⟨c0, c1, r0, r1, g0, g1, _, _, o1, o2, o3, o4⟩ := id NB
  have c0' := NB.drew.n0
  have c1' := NB.drew.n1
  have hTn : T ≠ nb := by omega
  go_region_held3 (fun w' => w'.cell? ⟨nb, 0, none⟩ = some (.int .i64 n) ∧ w'.cell? ⟨nb, 1, none⟩ = some (.slice A es.length c)) (first | go_keep) (first
    | (go_simp; go_at_call 68; (with_reducible refine (pick_any _ _ _ _ _ (30 : Int) _ (H3.drew.next m6) (by omega) (by omega)).mono ?_); rintro e7 w7 ⟨x7, m7, rfl, a7, b7, -, rfl⟩; have b7 := b7 (by omega); have NC := (NB.drew.readOn q m6).readOn (q + 1) m7; have H5 := (H3.drew.next m6).next m7; have wt7 : x7.tdiv 29 = x7 / 29 := Int.tdiv_eq_ediv_of_nonneg a7; have wu7 : IntKind.i64.wrap (x7 / 29) = x7 / 29 := IntWalk.i64_in _ (by omega); have ws7 : IntKind.i64.wrap (x6 - x7 / 29) = x6 - x7 / 29 := IntWalk.i64_in _ (by omega); have d0 := NC.n0; have d1 := NC.n1; have d2 := NC.r0; have d3 := NC.r1; have d4 := NC.g0; have d5 := NC.g1)
    | (go_simp; go_at_call 68; (with_reducible refine (pick_any _ _ _ _ _ ((es.length : Int) + 1) _ H3.drew (by omega) (by omega)).mono ?_); rintro e6 w6 ⟨x6, m6, rfl, a6, b6, -, rfl⟩; have b6 := b6 (by omega); have NE := NB.drew.readOn q m6; have u0 := NE.n0; have u1 := NE.n1))
  all_goals
    go_wp2_with fail
    refine bodyPost_ret (v := .tuple #[.agg #[.int .i64 n, .slice A es.length c], .int .i64 a, .int .i64 b, .int .i64 (x6 - x7 / 29)]) (by simp [results, Try.results67, go_sem, *]) rfl ?_
    exact NC.piv H5 (by omega) (by omega) (by omega) (by omega) (by omega) (by omega) (by omega) (by omega) (by omega) (by omega)

def GotPiv (w : World) (e : Ending) (w' : World) : Prop :=
  ∃ (n : Int) (A : Option Addr) (c : Nat) (es : List (Int × Int)) (a b s : Int), e = .returned (.tuple #[.agg #[.int .i64 n, .slice A es.length c], .int .i64 a, .int .i64 b, .int .i64 s]) ∧ OwnE w' w.heap.size (.slice A es.length c) es ∧ 1 ≤ n ∧ n ≤ 7 ∧ es.length ≤ 20 ∧ 1 ≤ a ∧ a ≤ 20 ∧ 1 ≤ b ∧ b ≤ 20 ∧ -1 ≤ s ∧ s ≤ 20 ∧ Below w.heap.size w w'

theorem drawWeightOf_any (A : Option Addr) (l cap : Nat) (w : World) (hb : BytesIn w w.heap.size A l) (hl : l ≤ 1048576) (hc : l ≤ cap) :
    Calls Try.prog 39 #[.slice A l cap] w (GotPiv w) := by
  have hbox := (Below.refl w.heap.size w).alloc (Nat.le_refl _) (.cells #[.int .i64 0, .slice none 0 0] 30)
  have hb' : BytesIn (w.alloc (.cells #[.int .i64 0, .slice none 0 0] 30)) (w.alloc (.cells #[.int .i64 0, .slice none 0 0] 30)).heap.size A l := (hb.keep fun p hp => hbox.cell hp).more (by simp)
  go_enter Try.func39, Try.ntmps39
  go_wp2_with fail
  refine (open_any _ _ _ _ hb' hl hc).mono ?_
  rintro e1 w1 ⟨rb, B, l1, c1, rfl, H1, hge, hb1⟩
  simp only [World.size_alloc] at hge
  go_wp2_with fail
  refine (l20Pivot_any _ _ _ _ _ _ H1 (by omega)).mono ?_
  rintro e2 w2 ⟨n, A2, c2, es, a, b, s, q, rfl, own, n1, n7, hle, a1, a2, b1, b2, s1, s2, H2, hg, hq⟩
  obtain ⟨q0, q1⟩ := tbox hb1 hg (by omega) 0
  obtain ⟨q2, q3⟩ := tbox hb1 hg (by omega) 1
  have hbel := tbelow hb1 hg (by omega)
  have hs := hb1.size
  simp only [World.size_alloc] at hs
  have q0' : w2.cell? ⟨w.heap.size, 0, none⟩ = some (.int .i64 0) := q0
  have q2' : w2.cell? ⟨w.heap.size, 1, none⟩ = some (.slice none 0 0) := q2
  clear q0 q2
  go_wp2_with fail
  refine bodyPost_ret (v := .tuple #[.agg #[.int .i64 n, .slice A2 es.length c2], .int .i64 a, .int .i64 b, .int .i64 s]) (by simp [results, Try.results39, go_sem, *]) rfl ?_
  exact ⟨n, A2, c2, es, a, b, s, rfl, ((own.more (by omega)).far (fun k hk => by have := (World.ownsRow.lt own k hk).1; simp; omega) _).far (fun k hk => by have := (World.ownsRow.lt own k hk).1; simp; omega) _, n1, n7, hle, a1, a2, b1, b2, s1, s2, (hbel.setCell (by simp) _).setCell (by simp) _⟩

/-- A drawn net in a box of its own, behind the reader; the result's box, which has not been written yet, before it. -/
structure NetBox3 (w wr : World) (rb nb : Nat) (n : Int) (A : Option Addr) (c : Nat) (es : List (Int × Int)) : Prop where
  n0 : wr.cell? ⟨nb, 0, none⟩ = some (.int .i64 n)
  n1 : wr.cell? ⟨nb, 1, none⟩ = some (.slice A es.length c)
  r0 : wr.cell? ⟨w.heap.size, 0, none⟩ = some (.int .i64 0)
  r1 : wr.cell? ⟨w.heap.size, 1, none⟩ = some (.slice none 0 0)
  g0 : wr.frozen? ⟨w.heap.size, 0, none⟩ = false
  g1 : wr.frozen? ⟨w.heap.size, 1, none⟩ = false
  own : OwnE wr (rb + 1) (.slice A es.length c) es
  bel : Below w.heap.size w wr
  o1 : w.heap.size < rb
  o2 : rb < nb
  o4 : nb < wr.heap.size
section
variable {w wr : World} {rb nb : Nat} {n : Int} {A : Option Addr} {c : Nat} {es : List (Int × Int)}
theorem NetBox3.readOn (h : NetBox3 w wr rb nb n A c es) (p m : Nat) : NetBox3 w (readOn wr rb p m) rb nb n A c es := by
  have o1 := h.o1
  have o2 := h.o2
  exact ⟨(readOn_cell _ _ _ _ _ (by simp; omega)).trans h.n0, (readOn_cell _ _ _ _ _ (by simp; omega)).trans h.n1,
   (readOn_cell _ _ _ _ _ (by simp; omega)).trans h.r0, (readOn_cell _ _ _ _ _ (by simp; omega)).trans h.r1, (readOn_frozen ..).trans h.g0, (readOn_frozen ..).trans h.g1,
   readOn_own h.own _ _ _ (by omega), h.bel.trans (below_of_grown (readOn_grown wr rb p m) h.bel.size (by omega)), h.o1, h.o2, by rw [readOn_size]; exact h.o4⟩
theorem NetBox3.drew (h : NetBox3 w wr rb nb n A c es) : NetBox3 w wr.drew rb nb n A c es :=
  ⟨h.n0, h.n1, h.r0, h.r1, h.g0, h.g1, h.own, h.bel.drew, h.o1, h.o2, h.o4⟩
end

def GotPivState (w : World) (e : Ending) (w' : World) : Prop :=
  ∃ (n : Int) (A : Option Addr) (c : Nat) (es : List (Int × Int)) (a b t s : Int), e = .returned (.tuple #[.agg #[.int .i64 n, .slice A es.length c], .int .i64 a, .int .i64 b, .int .i64 t, .int .i64 s]) ∧ OwnE w' w.heap.size (.slice A es.length c) es ∧ 1 ≤ n ∧ n ≤ 7 ∧ es.length ≤ 20 ∧ 1 ≤ a ∧ a ≤ 20 ∧ 1 ≤ b ∧ b ≤ 20 ∧ 0 ≤ t ∧ t ≤ 1000 ∧ -1 ≤ s ∧ s ≤ 20 ∧ Below w.heap.size w w'
theorem NetBox3.state {w wr : World} {rb nb : Nat} {n : Int} {A : Option Addr} {c : Nat} {es : List (Int × Int)} (h : NetBox3 w wr rb nb n A c es) {a b t s : Int} (h1 : 1 ≤ n) (h7 : n ≤ 7) (hle : es.length ≤ 20)
    (a1 : 1 ≤ a) (a2 : a ≤ 20) (b1 : 1 ≤ b) (b2 : b ≤ 20) (t1 : 0 ≤ t) (t2 : t ≤ 1000) (s1 : -1 ≤ s) (s2 : s ≤ 20) :
    GotPivState w (.returned (.tuple #[.agg #[.int .i64 n, .slice A es.length c], .int .i64 a, .int .i64 b, .int .i64 t, .int .i64 s])) ((wr.setCell ⟨w.heap.size, 0, none⟩ (.int .i64 n)).setCell ⟨w.heap.size, 1, none⟩ (.slice A es.length c)) := by
  have o1 := h.o1
  have o2 := h.o2
  refine ⟨n, A, c, es, a, b, t, s, rfl, ((h.own.more (by omega)).far ?_ _).far ?_ _, h1, h7, hle, a1, a2, b1, b2, t1, t2, s1, s2, (h.bel.setCell (by simp) _).setCell (by simp) _⟩
  · intro k hk; have := (World.ownsRow.lt h.own k hk).1; simp; omega
  · intro k hk; have := (World.ownsRow.lt h.own k hk).1; simp; omega

set_option maxHeartbeats 4000000 in
theorem drawPivotOk_any (A : Option Addr) (l cap : Nat) (w : World) (hb : BytesIn w w.heap.size A l) (hl : l ≤ 1048576) (hc : l ≤ cap) :
    Calls Try.prog 34 #[.slice A l cap] w (GotPivState w) := by
  have hbox := (Below.refl w.heap.size w).alloc (Nat.le_refl _) (.cells #[.int .i64 0, .slice none 0 0] 30)
  have hb' : BytesIn (w.alloc (.cells #[.int .i64 0, .slice none 0 0] 30)) (w.alloc (.cells #[.int .i64 0, .slice none 0 0] 30)).heap.size A l := (hb.keep fun p hp => hbox.cell hp).more (by simp)
  go_enter Try.func34, Try.ntmps34
  go_wp2_with fail
  refine (open_any _ _ _ _ hb' hl hc).mono ?_
  rintro e1 w1 ⟨rb, B, l1, c1, rfl, H1, hge, hb1⟩
  simp only [World.size_alloc] at hge
  go_wp2_with fail
  refine (l20Pivot_any _ _ _ _ _ _ H1 (by omega)).mono ?_
  rintro e2 w2 ⟨n, A2, c2, es, a, b, s, q, rfl, own, n1, n7, hle, a1, a2, b1, b2, s1, s2, H2, hg, hq⟩
  obtain ⟨q0, q1⟩ := tbox hb1 hg (by omega) 0
  obtain ⟨q2, q3⟩ := tbox hb1 hg (by omega) 1
  have hbel := tbelow hb1 hg (by omega)
  have hs := hb1.size
  simp only [World.size_alloc] at hs
  have hrb := H1.lt
  have hsg := hg.size
  have hbx := (Below.refl w2.heap.size w2).alloc (Nat.le_refl _) (.cells #[.int .i64 n, .slice A2 es.length c2] 30)
  have NB : NetBox3 w (w2.alloc (.cells #[.int .i64 n, .slice A2 es.length c2] 30)) rb w2.heap.size n A2 c2 es := by
    refine ⟨by rw [World.cell?_alloc_at _ _ _ _ rfl]; rfl, by rw [World.cell?_alloc_at _ _ _ _ rfl]; rfl, (hbx.cell (p := ⟨w.heap.size, 0, none⟩) (by simp; omega)).trans q0, (hbx.cell (p := ⟨w.heap.size, 1, none⟩) (by simp; omega)).trans q2,
      (hbx.frozen (p := ⟨w.heap.size, 0, none⟩) (by simp; omega)).trans q1, (hbx.frozen (p := ⟨w.heap.size, 1, none⟩) (by simp; omega)).trans q3, (own.more (by omega)).below hbx own.lt, hbel.trans (hbx.mono hbel.size), by omega, by omega, by simp⟩
  have H3 := H2.keep hbx H2.lt
  clear H1 H2 own hg q0 q1 q2 q3 hbel hbx hb1 hb hbox hb' hge hs
  obtain ⟨P0, hP0, z0, z8⟩ : ∃ P0 : Int, (if (8 : Int) < (es.length : Int) then (8 : Int) else (es.length : Int)) = P0 ∧ 0 ≤ P0 ∧ P0 ≤ 8 := by
    refine ⟨_, rfl, ?_⟩
    split <;> omega
  obtain ⟨P1, hP1, p1, p2⟩ : ∃ P1 : Int, IntKind.i64.wrap (2 ^ P0.toNat) = P1 ∧ 1 ≤ P1 ∧ P1 ≤ 256 := by
    refine ⟨_, rfl, ?_⟩
    rcases (show P0 = 0 ∨ P0 = 1 ∨ P0 = 2 ∨ P0 = 3 ∨ P0 = 4 ∨ P0 = 5 ∨ P0 = 6 ∨ P0 = 7 ∨ P0 = 8 by omega) with h | h | h | h | h | h | h | h | h <;> rw [h] <;> decide
  go_wp2_with fail
  obtain ⟨W, hW⟩ : ∃ W, W = w2.alloc (.cells #[.int .i64 n, .slice A2 es.length c2] 30) := ⟨_, rfl⟩
  rw [← hW] at NB H3 ⊢
  clear hW hsg
  generalize hnb : w2.heap.size = nb at *
  obtain ⟨c0, c1, r0, r1, g0, g1, _, _, o1, o2, o4⟩ := id NB
  have c0' := NB.drew.n0
  have c1' := NB.drew.n1
  have hTn : w.heap.size ≠ nb := by omega
  clear hnb
  go_region_held3 (fun w' => w'.cell? ⟨nb, 0, none⟩ = some (.int .i64 n) ∧ w'.cell? ⟨nb, 1, none⟩ = some (.slice A2 es.length c2)) (first | go_keep) (first
    | (go_simp; go_at_call 68; (with_reducible refine (pick_any _ _ _ _ _ (30 : Int) _ (H3.drew.next m6) (by omega) (by omega)).mono ?_); rintro e7 w7 ⟨x7, m7, rfl, a7, b7, -, rfl⟩; have b7 := b7 (by omega); have NC := (NB.drew.readOn q m6).readOn (q + 1) m7; have wt7 : x7.tdiv 29 = x7 / 29 := Int.tdiv_eq_ediv_of_nonneg a7; have wu7 : IntKind.i64.wrap (x7 / 29) = x7 / 29 := IntWalk.i64_in _ (by omega); have wv7 : IntKind.i64.wrap (x7 / 29 * 600) = x7 / 29 * 600 := IntWalk.i64_in _ (by omega); have ws7 : IntKind.i64.wrap (x6 + x7 / 29 * 600) = x6 + x7 / 29 * 600 := IntWalk.i64_in _ (by omega); have d0 := NC.n0; have d1 := NC.n1; have d2 := NC.r0; have d3 := NC.r1; have d4 := NC.g0; have d5 := NC.g1)
    | (go_simp; go_at_call 68; (with_reducible refine (pick_any _ _ _ _ _ P1 _ H3.drew (by omega) (by omega)).mono ?_); rintro e6 w6 ⟨x6, m6, rfl, a6, b6, -, rfl⟩; have b6 := b6 (by omega); have NE := NB.drew.readOn q m6; have u0 := NE.n0; have u1 := NE.n1))
  all_goals
    go_wp2_with fail
    refine bodyPost_ret (v := .tuple #[.agg #[.int .i64 n, .slice A2 es.length c2], .int .i64 a, .int .i64 b, .int .i64 (x6 + x7 / 29 * 600), .int .i64 s]) (by simp [results, Try.results34, go_sem, *]) rfl ?_
    exact NC.state (by omega) (by omega) (by omega) (by omega) (by omega) (by omega) (by omega) (by omega) (by omega) (by omega) (by omega)
end Go.Proofs.Ytlcgbmeneajfoac
