/- The draws of a net with a state, a node or a place. -/
import Derived.Test.YtgacgaidlbkkmaaDrawNet
namespace Go.Proofs.Ytgacgaidlbkkmaa
open Go.RowKit
set_option maxRecDepth 100000

/-- A net and a number have been drawn; of what was there only the reader turned. -/
def DrawnNetInt (w : World) (rb : Nat) (B : Option Addr) (l cap p : Nat) (e : Ending) (w' : World) : Prop :=
  ∃ (n : Int) (A : Option Addr) (c : Nat) (es : List (Int × Int)) (s : Int) (q : Nat), e = .returned (.tuple #[.agg #[.int .i64 n, .slice A es.length c], .int .i64 s]) ∧ OwnE w' w.heap.size (.slice A es.length c) es ∧
    1 ≤ n ∧ n ≤ 7 ∧ es.length ≤ 20 ∧ -1000 ≤ s ∧ s ≤ 1000 ∧ Rd w' rb B l cap q ∧ q ≤ p + 200 ∧ w.grownBy w' (some rb)

/-- A drawn net in a box of its own (block nb), behind a result's box (block tb) that has not been written yet. -/
structure NetBox2 (w wr : World) (rb tb nb : Nat) (n : Int) (A : Option Addr) (c : Nat) (es : List (Int × Int)) : Prop where
  n0 : wr.cell? ⟨nb, 0, none⟩ = some (.int .i64 n)
  n1 : wr.cell? ⟨nb, 1, none⟩ = some (.slice A es.length c)
  r0 : wr.cell? ⟨tb, 0, none⟩ = some (.int .i64 0)
  r1 : wr.cell? ⟨tb, 1, none⟩ = some (.slice none 0 0)
  g0 : wr.frozen? ⟨tb, 0, none⟩ = false
  g1 : wr.frozen? ⟨tb, 1, none⟩ = false
  own : OwnE wr (tb + 1) (.slice A es.length c) es
  gr : w.grownBy wr (some rb)
  o1 : rb < tb
  o2 : tb < nb
  o3 : w.heap.size ≤ tb
  o4 : nb < wr.heap.size

section
variable {w wr w1 : World} {rb tb nb : Nat} {n : Int} {A : Option Addr} {c : Nat} {es : List (Int × Int)}
theorem NetBox2.readOn (h : NetBox2 w wr rb tb nb n A c es) (p m : Nat) : NetBox2 w (readOn wr rb p m) rb tb nb n A c es := by
  have o1 := h.o1
  have o2 := h.o2
  exact ⟨(readOn_cell _ _ _ _ _ (by simp; omega)).trans h.n0, (readOn_cell _ _ _ _ _ (by simp; omega)).trans h.n1,
   (readOn_cell _ _ _ _ _ (by simp; omega)).trans h.r0, (readOn_cell _ _ _ _ _ (by simp; omega)).trans h.r1, (readOn_frozen ..).trans h.g0, (readOn_frozen ..).trans h.g1,
   readOn_own h.own _ _ _ (by omega), grown_trans h.gr (readOn_grown ..), h.o1, h.o2, h.o3, by rw [readOn_size]; exact h.o4⟩
theorem NetBox2.drew (h : NetBox2 w wr rb tb nb n A c es) : NetBox2 w wr.drew rb tb nb n A c es :=
  ⟨h.n0, h.n1, h.r0, h.r1, h.g0, h.g1, h.own, grown_below h.gr ((Below.refl w.heap.size wr).drew) (Nat.le_refl _), h.o1, h.o2, h.o3, h.o4⟩
theorem NetBox2.start {t t' : TypeId} (hr : rb < w.heap.size) (own : OwnE w1 (w.alloc (.cells #[.int .i64 0, .slice none 0 0] t)).heap.size (.slice A es.length c) es)
    (hg : (w.alloc (.cells #[.int .i64 0, .slice none 0 0] t)).grownBy w1 (some rb)) :
    NetBox2 w (w1.alloc (.cells #[.int .i64 n, .slice A es.length c] t')) rb w.heap.size w1.heap.size n A c es := by
  have hs := hg.size
  simp only [World.size_alloc] at hs own
  have hb := (Below.refl w1.heap.size w1).alloc (Nat.le_refl _) (.cells #[.int .i64 n, .slice A es.length c] t')
  have ht : w1.heap[w.heap.size]? = (w.alloc (.cells #[.int .i64 0, .slice none 0 0] t)).heap[w.heap.size]? := hg.block _ (by simp) (by simp; omega)
  refine ⟨by rw [World.cell?_alloc_at _ _ _ _ rfl]; rfl, by rw [World.cell?_alloc_at _ _ _ _ rfl]; rfl, ?_, ?_, ?_, ?_, own.below hb own.lt, ?_, hr, by omega, Nat.le_refl _, by simp⟩
  · rw [hb.cell (p := ⟨w.heap.size, 0, none⟩) (by simp; omega), World.cell?_of_block (w := w.alloc (.cells #[.int .i64 0, .slice none 0 0] t)) ht, World.cell?_alloc_at _ _ _ _ rfl]; rfl
  · rw [hb.cell (p := ⟨w.heap.size, 1, none⟩) (by simp; omega), World.cell?_of_block (w := w.alloc (.cells #[.int .i64 0, .slice none 0 0] t)) ht, World.cell?_alloc_at _ _ _ _ rfl]; rfl
  · rw [hb.frozen (p := ⟨w.heap.size, 0, none⟩) (by simp; omega), World.frozen?_of_block (w := w.alloc (.cells #[.int .i64 0, .slice none 0 0] t)) ht]; exact World.frozen?_alloc_at _ _ _ _ rfl
  · rw [hb.frozen (p := ⟨w.heap.size, 1, none⟩) (by simp; omega), World.frozen?_of_block (w := w.alloc (.cells #[.int .i64 0, .slice none 0 0] t)) ht]; exact World.frozen?_alloc_at _ _ _ _ rfl
  · exact grown_below (grown_trans (World.grownBy_alloc _ _ _) hg) hb (by omega)
theorem NetBox2.result (h : NetBox2 w wr rb tb nb n A c es) {B : Option Addr} {l cap p q : Nat} {s : Int} (hr : Rd wr rb B l cap q) (hq : q ≤ p + 200) (h1 : 1 ≤ n) (h7 : n ≤ 7) (hle : es.length ≤ 20) (s1 : -1000 ≤ s) (s2 : s ≤ 1000) :
    DrawnNetInt w rb B l cap p (.returned (.tuple #[.agg #[.int .i64 n, .slice A es.length c], .int .i64 s])) ((wr.setCell ⟨tb, 0, none⟩ (.int .i64 n)).setCell ⟨tb, 1, none⟩ (.slice A es.length c)) := by
  have o1 := h.o1
  have o2 := h.o2
  have o3 := h.o3
  refine ⟨n, A, c, es, s, q, rfl, ((h.own.more (by omega)).far ?_ _).far ?_ _, h1, h7, hle, s1, s2, ?_, hq, ?_⟩
  · intro k hk; have := (World.ownsRow.lt h.own k hk).1; simp; omega
  · intro k hk; have := (World.ownsRow.lt h.own k hk).1; simp; omega
  · exact hr.keep (((Below.refl tb wr).setCell (by simp) _).setCell (by simp) _) o1
  · exact grown_below h.gr (((Below.refl tb wr).setCell (by simp) _).setCell (by simp) _) o3
end

end Go.Proofs.Ytgacgaidlbkkmaa

namespace Go.Proofs.Ytgacgaidlbkkmaa
open Go.RowKit
set_option maxRecDepth 100000

end Go.Proofs.Ytgacgaidlbkkmaa

namespace Go.Proofs.Ytgacgaidlbkkmaa
open Go.RowKit
set_option maxRecDepth 100000

theorem times_bit (x P : Int) (h0 : 0 ≤ x) (h1 : x < 2) (p0 : 1 ≤ P) (p1 : P ≤ 512) : ∃ M : Int, IntKind.i64.wrap (x * P) = M ∧ 0 ≤ M ∧ M ≤ 512 := by
  have : x = 0 ∨ x = 1 := by omega
  rcases this with rfl | rfl
  · exact ⟨0, by rw [Int.zero_mul]; exact IntWalk.i64_in _ (by omega), by omega, by omega⟩
  · exact ⟨P, by rw [Int.one_mul]; exact IntWalk.i64_in _ (by omega), by omega, by omega⟩

set_option maxRecDepth 100000 in
set_option maxHeartbeats 4000000 in
theorem l20State_any (rb : Nat) (B : Option Addr) (l cap p : Nat) (m : Int) (w : World) (h : Rd w rb B l cap p) (hp : p ≤ 800000) (hm : m ≤ 1000) (hm1 : 1 ≤ m) :
    Calls Try.prog 63 #[.pointer (some ⟨rb, 0, none⟩), .int .i64 m] w (DrawnNetInt w rb B l cap p) := by
  have hrb := h.lt
  have H1 := h.keep ((Below.refl w.heap.size w).alloc (Nat.le_refl _) (.cells #[.int .i64 0, .slice none 0 0] 25)) hrb
  go_enter Try.func63, Try.ntmps63
  go_wp2_with fail
  refine (l20Net_any _ _ _ _ _ _ _ H1 (by omega) (by omega) (by omega)).mono ?_
  rintro e1 w1 ⟨n, A, c, es, q, rfl, own, n1, n7, hle, H2, hq, hg⟩
  have NB := NetBox2.start (n := n) (t' := 25) hrb own hg
  have H3 := H2.keep ((Below.refl w1.heap.size w1).alloc (Nat.le_refl _) (.cells #[.int .i64 n, .slice A es.length c] 25)) H2.lt
  clear H1 H2 own hg
  obtain ⟨c0, c1, r0, r1, g0, g1, _, _, o1, o2, o3, o4⟩ := id NB
  go_upto_if 13 with (fail)
  obtain ⟨W, hW⟩ : ∃ W, W = w1.alloc (.cells #[.int .i64 n, .slice A es.length c] 25) := ⟨_, rfl⟩
  clear c0 c1 r0 r1 g0 g1 o1 o2 o3 o4
  rw [← hW] at NB H3 ⊢
  clear hW
  generalize hnb : w1.heap.size = nb at *
  generalize hT : w.heap.size = T at *
  clear hnb hT
  obtain ⟨c0, c1, r0, r1, g0, g1, _, _, o1, o2, o3, o4⟩ := id NB
  by_cases h9 : 9 < es.length
  · go_wp2_with fail
    refine bodyPost_ret (v := .tuple #[.agg #[.int .i64 n, .slice A es.length c], .int .i64 0]) (by simp [results, Try.results63, go_sem, *]) rfl ?_
    exact NB.result H3 (by omega) (by omega) (by omega) (by omega) (by omega) (by omega)
  · have hl9 : es.length = 0 ∨ es.length = 1 ∨ es.length = 2 ∨ es.length = 3 ∨ es.length = 4 ∨ es.length = 5 ∨ es.length = 6 ∨ es.length = 7 ∨ es.length = 8 ∨ es.length = 9 := by omega
    obtain ⟨P1, hP1, p1, p2⟩ : ∃ P1 : Int, IntKind.i64.wrap (2 ^ (if (7 : Int) < (es.length : Int) then (7 : Int) else (es.length : Int)).toNat) = P1 ∧ 1 ≤ P1 ∧ P1 ≤ 128 := by
      refine ⟨_, rfl, ?_⟩
      rcases hl9 with h | h | h | h | h | h | h | h | h | h <;> rw [h] <;> decide
    obtain ⟨P2, hP2, p3, p4⟩ : ∃ P2 : Int, IntKind.i64.wrap (2 ^ es.length) = P2 ∧ 1 ≤ P2 ∧ P2 ≤ 512 := by
      refine ⟨_, rfl, ?_⟩
      rcases hl9 with h | h | h | h | h | h | h | h | h | h <;> rw [h] <;> decide
    obtain ⟨P0, hP0⟩ : ∃ P0 : Int, (if (7 : Int) < (es.length : Int) then (7 : Int) else (es.length : Int)) = P0 := ⟨_, rfl⟩
    rw [hP0] at hP1
    clear hl9
    go_wp2_with fail
    have c0' := NB.drew.n0
    have c1' := NB.drew.n1
    have hTn : T ≠ nb := by omega
    go_region_held3 (fun w' => w'.cell? ⟨nb, 0, none⟩ = some (.int .i64 n) ∧ w'.cell? ⟨nb, 1, none⟩ = some (.slice A es.length c)) (first | go_keep) (first
      | (go_simp; go_at_call 44; (with_reducible refine (pick_any _ _ _ _ _ (40 : Int) _ ((H3.drew.next m5).next m6) (by omega) (by omega)).mono ?_); rintro e7 w7 ⟨x7, m7, rfl, a7, b7, -, rfl⟩; have b7 := b7 (by omega); have NC := ((NB.drew.readOn q m5).readOn (q + 1) m6).readOn (q + 1 + 1) m7; have H5 := ((H3.drew.next m5).next m6).next m7; have wt7 : x7.tdiv 39 = x7 / 39 := Int.tdiv_eq_ediv_of_nonneg a7; have wu7 : IntKind.i64.wrap (x7 / 39) = x7 / 39 := IntWalk.i64_in _ (by omega); have wv7 : IntKind.i64.wrap (x7 / 39 * 900) = x7 / 39 * 900 := IntWalk.i64_in _ (by omega); have ws7 : IntKind.i64.wrap (x5 + M / 2 - x7 / 39 * 900) = x5 + M / 2 - x7 / 39 * 900 := IntWalk.i64_in _ (by omega); have d0 := NC.n0; have d1 := NC.n1; have d2 := NC.r0; have d3 := NC.r1; have d4 := NC.g0; have d5 := NC.g1)
      | (go_simp; go_at_call 44; (with_reducible refine (pick_any _ _ _ _ _ (2 : Int) _ (H3.drew.next m5) (by omega) (by omega)).mono ?_); rintro e6 w6 ⟨x6, m6, rfl, a6, b6, -, rfl⟩; have b6 := b6 (by omega); obtain ⟨M, hM, M0, M1⟩ := times_bit x6 P2 a6 b6 p3 p4; have wt6 : M.tdiv 2 = M / 2 := Int.tdiv_eq_ediv_of_nonneg M0; have wu6 : IntKind.i64.wrap (M / 2) = M / 2 := IntWalk.i64_in _ (by omega); have ws6 : IntKind.i64.wrap (x5 + M / 2) = x5 + M / 2 := IntWalk.i64_in _ (by omega); have NE := (NB.drew.readOn q m5).readOn (q + 1) m6; have u0 := NE.n0; have u1 := NE.n1)
      | (go_simp; go_at_call 44; (with_reducible refine (pick_any _ _ _ _ _ P1 _ H3.drew (by omega) (by omega)).mono ?_); rintro e5 w5 ⟨x5, m5, rfl, a5, b5, -, rfl⟩; have b5 := b5 (by omega); have f0 := (NB.drew.readOn q m5).n0; have f1 := (NB.drew.readOn q m5).n1))
    all_goals
      go_wp2_with fail
      refine bodyPost_ret (v := .tuple #[.agg #[.int .i64 n, .slice A es.length c], .int .i64 (x5 + M / 2 - x7 / 39 * 900)]) (by simp [results, Try.results63, go_sem, *]) rfl ?_
      exact NC.result H5 (by omega) (by omega) (by omega) (by omega) (by omega) (by omega)
end Go.Proofs.Ytgacgaidlbkkmaa

/- The draws for the laws of the first chapter: from a code to a net, and a number. -/
namespace Go.Proofs.Ytgacgaidlbkkmaa
open Go.RowKit
set_option maxRecDepth 100000

/-- What a draw of a net leaves. -/
def GotNet (w : World) (e : Ending) (w' : World) : Prop :=
  ∃ (n : Int) (A : Option Addr) (c : Nat) (es : List (Int × Int)), e = .returned (.agg #[.int .i64 n, .slice A es.length c]) ∧ OwnE w' w.heap.size (.slice A es.length c) es ∧ 1 ≤ n ∧ n ≤ 7 ∧ es.length ≤ 20 ∧ Below w.heap.size w w'
def GotNetInt (w : World) (e : Ending) (w' : World) : Prop :=
  ∃ (n : Int) (A : Option Addr) (c : Nat) (es : List (Int × Int)) (s : Int), e = .returned (.tuple #[.agg #[.int .i64 n, .slice A es.length c], .int .i64 s]) ∧ OwnE w' w.heap.size (.slice A es.length c) es ∧ 1 ≤ n ∧ n ≤ 7 ∧ es.length ≤ 20 ∧ -1000 ≤ s ∧ s ≤ 1000 ∧ Below w.heap.size w w'

/-- A result's box at the end: what it held when the call began. -/
theorem tbox {w w1 w2 : World} {t : TypeId} {cs : Array Value} {rb : Nat} (hb : Below (w.alloc (.cells cs t)).heap.size (w.alloc (.cells cs t)) w1) (hg : w1.grownBy w2 (some rb)) (hr : w.heap.size < rb) (i : Nat) :
    w2.cell? ⟨w.heap.size, i, none⟩ = cs[i]? ∧ w2.frozen? ⟨w.heap.size, i, none⟩ = false := by
  have hs := hb.size
  simp only [World.size_alloc] at hs
  have h2 : w2.heap[w.heap.size]? = (w.alloc (.cells cs t)).heap[w.heap.size]? := (hg.block _ (by omega) (by simp; omega)).trans (hb.block _ (by simp))
  exact ⟨(World.cell?_of_block (w := w.alloc (.cells cs t)) h2).trans (by rw [World.cell?_alloc_at _ _ _ _ rfl]), (World.frozen?_of_block (w := w.alloc (.cells cs t)) h2).trans (World.frozen?_alloc_at _ _ _ _ rfl)⟩
theorem tbelow {w w1 w2 : World} {t : TypeId} {cs : Array Value} {rb : Nat} (hb : Below (w.alloc (.cells cs t)).heap.size (w.alloc (.cells cs t)) w1) (hg : w1.grownBy w2 (some rb)) (hr : w.heap.size < rb) : Below w.heap.size w w2 := by
  have hs := hb.size
  simp only [World.size_alloc] at hs
  exact (((Below.refl _ _).alloc (Nat.le_refl _) _).trans (hb.mono (by simp))).trans (below_of_grown hg (by omega) (by omega))

end Go.Proofs.Ytgacgaidlbkkmaa
