/- The draws of a net with a state, a node or a place. -/
import Derived.Test.YtonofgpghfolpaaDrawNet
namespace Go.Proofs.Ytonofgpghfolpaa
open Go.RowKit

/-- A net and a number have been drawn; of what was there only the reader turned. -/
def DrawnNetInt (w : World) (rb : Nat) (B : Option Addr) (l cap p : Nat) (e : Ending) (w' : World) : Prop :=
  ∃ (n : Int) (A : Option Addr) (c : Nat) (es : List (Int × Int)) (s : Int) (q : Nat), e = .returned (.tuple #[.agg #[.int .i64 n, .slice A es.length c], .int .i64 s]) ∧ OwnE w' w.heap.size (.slice A es.length c) es ∧
    1 ≤ n ∧ n ≤ 7 ∧ es.length ≤ 20 ∧ -1000 ≤ s ∧ s ≤ 1000 ∧ Rd w' rb B l cap q ∧ q ≤ p + 200 ∧ w.grownBy w' (some rb)

/-- A drawn net in a box of its own (block nb), behind a result's box (block tb) that has not been written yet. -/
structure NetBox2 (w wr : World) (rb tb nb : Nat) (n : Int) (A : Option Addr) (c : Nat) (es : List (Int × Int)) : Prop where
  n0 : wr.cell? ⟨nb, 0, none⟩ = some (.int .i64 n)
  n1 : wr.cell? ⟨nb, 1, none⟩ = some (.slice A es.length c)
  r0 : wr.cell? ⟨tb, 0, none⟩ = some (.int .i64 0)
  r1 : wr.cell? ⟨tb, 1, none⟩ = some (.slice none 0 0)
  g0 : wr.frozen? ⟨tb, 0, none⟩ = false
  g1 : wr.frozen? ⟨tb, 1, none⟩ = false
  own : OwnE wr (tb + 1) (.slice A es.length c) es
  gr : w.grownBy wr (some rb)
  o1 : rb < tb
  o2 : tb < nb
  o3 : w.heap.size ≤ tb
  o4 : nb < wr.heap.size

section
variable {w wr w1 : World} {rb tb nb : Nat} {n : Int} {A : Option Addr} {c : Nat} {es : List (Int × Int)}
theorem NetBox2.readOn (h : NetBox2 w wr rb tb nb n A c es) (p m : Nat) : NetBox2 w (readOn wr rb p m) rb tb nb n A c es := by
  have o1 := h.o1
  have o2 := h.o2
  exact ⟨(readOn_cell _ _ _ _ _ (by simp; omega)).trans h.n0, (readOn_cell _ _ _ _ _ (by simp; omega)).trans h.n1,
   (readOn_cell _ _ _ _ _ (by simp; omega)).trans h.r0, (readOn_cell _ _ _ _ _ (by simp; omega)).trans h.r1, (readOn_frozen ..).trans h.g0, (readOn_frozen ..).trans h.g1,
   readOn_own h.own _ _ _ (by omega), grown_trans h.gr (readOn_grown ..), h.o1, h.o2, h.o3, by rw [readOn_size]; exact h.o4⟩
theorem NetBox2.drew (h : NetBox2 w wr rb tb nb n A c es) : NetBox2 w wr.drew rb tb nb n A c es :=
  ⟨h.n0, h.n1, h.r0, h.r1, h.g0, h.g1, h.own, grown_below h.gr ((Below.refl w.heap.size wr).drew) (Nat.le_refl _), h.o1, h.o2, h.o3, h.o4⟩
theorem NetBox2.start {t t' : TypeId} (hr : rb < w.heap.size) (own : OwnE w1 (w.alloc (.cells #[.int .i64 0, .slice none 0 0] t)).heap.size (.slice A es.length c) es)
    (hg : (w.alloc (.cells #[.int .i64 0, .slice none 0 0] t)).grownBy w1 (some rb)) :
    NetBox2 w (w1.alloc (.cells #[.int .i64 n, .slice A es.length c] t')) rb w.heap.size w1.heap.size n A c es := by
  have hs := hg.size
  simp only [World.size_alloc] at hs own
  have hb := (Below.refl w1.heap.size w1).alloc (Nat.le_refl _) (.cells #[.int .i64 n, .slice A es.length c] t')
  have ht : w1.heap[w.heap.size]? = (w.alloc (.cells #[.int .i64 0, .slice none 0 0] t)).heap[w.heap.size]? := hg.block _ (by simp) (by simp; omega)
  refine ⟨by rw [World.cell?_alloc_at _ _ _ _ rfl]; rfl, by rw [World.cell?_alloc_at _ _ _ _ rfl]; rfl, ?_, ?_, ?_, ?_, own.below hb own.lt, ?_, hr, by omega, Nat.le_refl _, by simp⟩
  · rw [hb.cell (p := ⟨w.heap.size, 0, none⟩) (by simp; omega), World.cell?_of_block (w := w.alloc (.cells #[.int .i64 0, .slice none 0 0] t)) ht, World.cell?_alloc_at _ _ _ _ rfl]; rfl
  · rw [hb.cell (p := ⟨w.heap.size, 1, none⟩) (by simp; omega), World.cell?_of_block (w := w.alloc (.cells #[.int .i64 0, .slice none 0 0] t)) ht, World.cell?_alloc_at _ _ _ _ rfl]; rfl
  · rw [hb.frozen (p := ⟨w.heap.size, 0, none⟩) (by simp; omega), World.frozen?_of_block (w := w.alloc (.cells #[.int .i64 0, .slice none 0 0] t)) ht]; exact World.frozen?_alloc_at _ _ _ _ rfl
  · rw [hb.frozen (p := ⟨w.heap.size, 1, none⟩) (by simp; omega), World.frozen?_of_block (w := w.alloc (.cells #[.int .i64 0, .slice none 0 0] t)) ht]; exact World.frozen?_alloc_at _ _ _ _ rfl
  · exact grown_below (grown_trans (World.grownBy_alloc _ _ _) hg) hb (by omega)
theorem NetBox2.result (h : NetBox2 w wr rb tb nb n A c es) {B : Option Addr} {l cap p q : Nat} {s : Int} (hr : Rd wr rb B l cap q) (hq : q ≤ p + 200) (h1 : 1 ≤ n) (h7 : n ≤ 7) (hle : es.length ≤ 20) (s1 : -1000 ≤ s) (s2 : s ≤ 1000) :
    DrawnNetInt w rb B l cap p (.returned (.tuple #[.agg #[.int .i64 n, .slice A es.length c], .int .i64 s])) ((wr.setCell ⟨tb, 0, none⟩ (.int .i64 n)).setCell ⟨tb, 1, none⟩ (.slice A es.length c)) := by
  have o1 := h.o1
  have o2 := h.o2
  have o3 := h.o3
  refine ⟨n, A, c, es, s, q, rfl, ((h.own.more (by omega)).far ?_ _).far ?_ _, h1, h7, hle, s1, s2, ?_, hq, ?_⟩
  · intro k hk; have := (World.ownsRow.lt h.own k hk).1; simp; omega
  · intro k hk; have := (World.ownsRow.lt h.own k hk).1; simp; omega
  · exact hr.keep (((Below.refl tb wr).setCell (by simp) _).setCell (by simp) _) o1
  · exact grown_below h.gr (((Below.refl tb wr).setCell (by simp) _).setCell (by simp) _) o3
end

set_option maxRecDepth 100000 in
set_option maxHeartbeats 4000000 in
theorem l20At_any (rb : Nat) (B : Option Addr) (l cap p : Nat) (w : World) (h : Rd w rb B l cap p) (hp : p ≤ 800000) :
    Calls Try.prog 44 #[.pointer (some ⟨rb, 0, none⟩)] w (DrawnNetInt w rb B l cap p) := by
  have hrb := h.lt
  have H1 := h.keep ((Below.refl w.heap.size w).alloc (Nat.le_refl _) (.cells #[.int .i64 0, .slice none 0 0] 25)) hrb
  go_enter Try.func44, Try.ntmps44
  go_wp2_with fail
  refine (l20Net_any _ _ _ _ _ _ _ H1 (by omega) (by omega) (by omega)).mono ?_
  rintro e1 w1 ⟨n, A, c, es, q, rfl, own, n1, n7, hle, H2, hq, hg⟩
  have NB := NetBox2.start (n := n) (t' := 25) hrb own hg
  have H3 := H2.keep ((Below.refl w1.heap.size w1).alloc (Nat.le_refl _) (.cells #[.int .i64 n, .slice A es.length c] 25)) H2.lt
  clear H1 H2 own hg
  obtain ⟨c0, c1, r0, r1, g0, g1, _, _, o1, o2, o3, o4⟩ := id NB
  have wl : IntKind.i64.wrap ((es.length : Int) + 1) = (es.length : Int) + 1 := IntWalk.i64_in _ (by omega)
  go_wp2_with fail
  obtain ⟨W, hW⟩ : ∃ W, W = w1.alloc (.cells #[.int .i64 n, .slice A es.length c] 25) := ⟨_, rfl⟩
  clear c0 c1 r0 r1 g0 g1 o1 o2 o3 o4
  rw [← hW] at NB H3 ⊢
  clear hW
  generalize hnb : w1.heap.size = nb at *
  generalize hT : w.heap.size = T at *
  clear hnb hT
  obtain ⟨c0, c1, r0, r1, g0, g1, _, _, o1, o2, o3, o4⟩ := id NB
  have c0' := NB.drew.n0
  have c1' := NB.drew.n1
  go_region_law (first
    | (go_simp; go_at_call 69; (with_reducible refine (pick_any _ _ _ _ _ (20 : Int) _ (H3.drew.next m5) (by omega) (by omega)).mono ?_); rintro e6 w6 ⟨x6, m6, rfl, a6, b6, -, rfl⟩; have b6 := b6 (by omega); have NC := (NB.drew.readOn q m5).readOn (q + 1) m6; have H5 := (H3.drew.next m5).next m6; have wt : x6.tdiv 19 = x6 / 19 := Int.tdiv_eq_ediv_of_nonneg a6; have wu : IntKind.i64.wrap (x6 / 19) = x6 / 19 := IntWalk.i64_in _ (by omega); have ws : IntKind.i64.wrap (x5 - x6 / 19) = x5 - x6 / 19 := IntWalk.i64_in _ (by omega); have d0 := NC.n0; have d1 := NC.n1; have d2 := NC.r0; have d3 := NC.r1; have d4 := NC.g0; have d5 := NC.g1)
    | (go_simp; go_at_call 69; (with_reducible refine (pick_any _ _ _ _ _ ((es.length : Int) + 1) _ H3.drew (by omega) (by omega)).mono ?_); rintro e5 w5 ⟨x5, m5, rfl, a5, b5, -, rfl⟩; have b5 := b5 (by omega); have f0 := (NB.drew.readOn q m5).n0; have f1 := (NB.drew.readOn q m5).n1))
  all_goals
    go_wp2_with fail
    refine bodyPost_ret (v := .tuple #[.agg #[.int .i64 n, .slice A es.length c], .int .i64 (x5 - x6 / 19)]) (by simp [results, Try.results44, go_sem, *]) rfl ?_
    exact NC.result H5 (by omega) (by omega) (by omega) (by omega) (by omega) (by omega)
end Go.Proofs.Ytonofgpghfolpaa
