/- The draw of a net, weights and a state. -/
import Derived.Test.YtmdmmebekicpkabDrawWs
namespace Go.Proofs.Ytmdmmebekicpkab
open Go.RowKit
set_option maxRecDepth 100000

/-- A drawn net in a box of its own, behind the reader; the result's box, not yet written, before it. -/
structure NetBox4 (w wr : World) (rb nb : Nat) (n : Int) (A : Option Addr) (c : Nat) (es : List (Int × Int)) : Prop where
  n0 : wr.cell? ⟨nb, 0, none⟩ = some (.int .i64 n)
  n1 : wr.cell? ⟨nb, 1, none⟩ = some (.slice A es.length c)
  r0 : wr.cell? ⟨w.heap.size, 0, none⟩ = some (.int .i64 0)
  r1 : wr.cell? ⟨w.heap.size, 1, none⟩ = some (.slice none 0 0)
  g0 : wr.frozen? ⟨w.heap.size, 0, none⟩ = false
  g1 : wr.frozen? ⟨w.heap.size, 1, none⟩ = false
  own : OwnE wr (rb + 1) (.slice A es.length c) es
  bel : Below w.heap.size w wr
  o1 : w.heap.size < rb
  o2 : rb < nb
  o4 : nb < wr.heap.size
section
variable {w wr wr' : World} {rb nb : Nat} {n : Int} {A : Option Addr} {c : Nat} {es : List (Int × Int)}
theorem NetBox4.grown (h : NetBox4 w wr rb nb n A c es) (hg : wr.grownBy wr' (some rb)) : NetBox4 w wr' rb nb n A c es := by
  have o1 := h.o1
  have o2 := h.o2
  have o4 := h.o4
  have hn : wr'.heap[nb]? = wr.heap[nb]? := hg.block nb o4 (fun e => by have := Option.some.inj e; omega)
  have ht : wr'.heap[w.heap.size]? = wr.heap[w.heap.size]? := hg.block w.heap.size (by omega) (fun e => by have := Option.some.inj e; omega)
  refine ⟨(World.cell?_of_block (a := ⟨nb, 0, none⟩) hn).trans h.n0, (World.cell?_of_block (a := ⟨nb, 1, none⟩) hn).trans h.n1, (World.cell?_of_block (a := ⟨w.heap.size, 0, none⟩) ht).trans h.r0, (World.cell?_of_block (a := ⟨w.heap.size, 1, none⟩) ht).trans h.r1,
    by simp only [World.frozen?, ht]; exact h.g0, by simp only [World.frozen?, ht]; exact h.g1, World.ownsRow.kept h.own hg ?_, h.bel.trans (below_of_grown hg h.bel.size (by omega)), o1, o2, Nat.lt_of_lt_of_le o4 hg.size⟩
  cases ho : (Value.slice A es.length c).ownBlock with
  | none => exact .inl rfl
  | some j =>
    refine .inr fun e => ?_
    have h1 := (World.ownsRow.lt h.own j ho).1
    have h2 := Option.some.inj e
    omega
theorem NetBox4.drew (h : NetBox4 w wr rb nb n A c es) : NetBox4 w wr.drew rb nb n A c es :=
  ⟨h.n0, h.n1, h.r0, h.r1, h.g0, h.g1, h.own, h.bel.drew, h.o1, h.o2, h.o4⟩
end

def GotNetWs (w : World) (e : Ending) (w' : World) : Prop :=
  ∃ (n : Int) (A : Option Addr) (c : Nat) (es : List (Int × Int)) (B : Option Addr) (d : Nat) (ws : List Int) (s : Int), e = .returned (.tuple #[.agg #[.int .i64 n, .slice A es.length c], .slice B ws.length d, .int .i64 s]) ∧ OwnE w' w.heap.size (.slice A es.length c) es ∧ OwnI w' w.heap.size (.slice B ws.length d) ws ∧
    1 ≤ n ∧ n ≤ 7 ∧ es.length ≤ 20 ∧ ws.length ≤ 21 ∧ -1000 ≤ s ∧ s ≤ 1000 ∧ Below w.heap.size w w'

set_option maxHeartbeats 4000000 in
theorem drawHeavyOf_any (A : Option Addr) (l cap : Nat) (w : World) (hb : BytesIn w w.heap.size A l) (hl : l ≤ 1048576) (hc : l ≤ cap) :
    Calls Try.prog 20 #[.slice A l cap] w (GotNetWs w) := by
  have hbox := (Below.refl w.heap.size w).alloc (Nat.le_refl _) (.cells #[.int .i64 0, .slice none 0 0] 25)
  have hb' : BytesIn (w.alloc (.cells #[.int .i64 0, .slice none 0 0] 25)) (w.alloc (.cells #[.int .i64 0, .slice none 0 0] 25)).heap.size A l := (hb.keep fun p hp => hbox.cell hp).more (by simp)
  go_enter Try.func20, Try.ntmps20
  go_wp2_with fail
  refine (open_any _ _ _ _ hb' hl hc).mono ?_
  rintro e1 w1 ⟨rb, B, l1, c1, rfl, H1, hge, hb1⟩
  simp only [World.size_alloc] at hge
  go_wp2_with fail
  refine (l20Tree_any _ _ _ _ _ _ H1 (by omega)).mono ?_
  rintro e2 w2 ⟨n, A2, c2, es, s, q, rfl, own, n1, n7, hle, s1, s2, H2, hq, hg⟩
  obtain ⟨q0, q1⟩ := tbox hb1 hg (by omega) 0
  obtain ⟨q2, q3⟩ := tbox hb1 hg (by omega) 1
  have hbel := tbelow hb1 hg (by omega)
  have hs := hb1.size
  simp only [World.size_alloc] at hs
  have hrb := H1.lt
  have hsg := hg.size
  have hbx := (Below.refl w2.heap.size w2).alloc (Nat.le_refl _) (.cells #[.int .i64 n, .slice A2 es.length c2] 25)
  have NB : NetBox4 w (w2.alloc (.cells #[.int .i64 n, .slice A2 es.length c2] 25)) rb w2.heap.size n A2 c2 es := by
    refine ⟨by rw [World.cell?_alloc_at _ _ _ _ rfl]; rfl, by rw [World.cell?_alloc_at _ _ _ _ rfl]; rfl, (hbx.cell (p := ⟨w.heap.size, 0, none⟩) (by simp; omega)).trans q0, (hbx.cell (p := ⟨w.heap.size, 1, none⟩) (by simp; omega)).trans q2,
      (hbx.frozen (p := ⟨w.heap.size, 0, none⟩) (by simp; omega)).trans q1, (hbx.frozen (p := ⟨w.heap.size, 1, none⟩) (by simp; omega)).trans q3, (own.more (by omega)).below hbx own.lt, hbel.trans (hbx.mono hbel.size), by omega, by omega, by simp⟩
  have H3 := H2.keep hbx H2.lt
  clear H1 H2 own hg q0 q1 q2 q3 hbel hbx hb1 hb hbox hb' hge hs
  obtain ⟨W, hW⟩ : ∃ W, W = w2.alloc (.cells #[.int .i64 n, .slice A2 es.length c2] 25) := ⟨_, rfl⟩
  go_wp2_with fail
  rw [← hW] at NB H3 ⊢
  clear hW hsg
  generalize hnb : w2.heap.size = nb at *
  obtain ⟨k0, k1, r0, r1, g0, g1, _, _, o1, o2, o4⟩ := id NB
  have k0' := NB.drew.n0
  have k1' := NB.drew.n1
  have hTn : w.heap.size ≠ nb := by omega
  clear hnb
  go_region_held3 (fun w' => w'.cell? ⟨nb, 0, none⟩ = some (.int .i64 n) ∧ w'.cell? ⟨nb, 1, none⟩ = some (.slice A2 es.length c2)) (first | go_keep) (first
    | (go_simp; go_at_call 54; (with_reducible refine (l20Weights_any _ _ _ _ _ n A2 c2 es.length _ H3.drew (by omega) hle).mono ?_); rintro e6 w6 ⟨B6, d6, ws, q6, rfl, own6, hw6, H6, hq6, hg6⟩; have NC := NB.drew.grown hg6; have d0 := NC.n0; have d1 := NC.n1; have d2 := NC.r0; have d3 := NC.r1; have d4 := NC.g0; have d5 := NC.g1))
  all_goals
    have hge6 := own6.ge
    go_wp2_with fail
    refine bodyPost_ret (v := .tuple #[.agg #[.int .i64 n, .slice A2 es.length c2], .slice B6 ws.length d6, .int .i64 s]) (by simp [results, Try.results20, go_sem, *]) rfl ?_
    refine ⟨n, A2, c2, es, B6, d6, ws, s, rfl, ((NC.own.more (by omega)).far ?_ _).far ?_ _, OwnI.far (OwnI.far (own6.more (by rw [World.size_drew]; omega)) ?_ _) ?_ _, n1, n7, hle, hw6, s1, s2, (NC.bel.setCell (by simp) _).setCell (by simp) _⟩
    · intro k hk; have := (World.ownsRow.lt NC.own k hk).1; simp; omega
    · intro k hk; have := (World.ownsRow.lt NC.own k hk).1; simp; omega
    · intro k hk; have := hge6 k hk; rw [World.size_drew] at this; simp; omega
    · intro k hk; have := hge6 k hk; rw [World.size_drew] at this; simp; omega
end Go.Proofs.Ytmdmmebekicpkab
