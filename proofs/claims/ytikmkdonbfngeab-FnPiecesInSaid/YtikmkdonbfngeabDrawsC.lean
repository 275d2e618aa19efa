/- The draws of a net with a state, a node or a place. -/
import Derived.Test.YtikmkdonbfngeabDraws
namespace Go.Proofs.Ytikmkdonbfngeab
open Go.RowKit
set_option maxRecDepth 100000

theorem times_bit (x P : Int) (h0 : 0 ≤ x) (h1 : x < 2) (p0 : 1 ≤ P) (p1 : P ≤ 512) : ∃ M : Int, IntKind.i64.wrap (x * P) = M ∧ 0 ≤ M ∧ M ≤ 512 := by
  have : x = 0 ∨ x = 1 := by omega
  rcases this with rfl | rfl
  · exact ⟨0, by rw [Int.zero_mul]; exact IntWalk.i64_in _ (by omega), by omega, by omega⟩
  · exact ⟨P, by rw [Int.one_mul]; exact IntWalk.i64_in _ (by omega), by omega, by omega⟩

set_option maxRecDepth 100000 in
set_option maxHeartbeats 4000000 in
theorem l20State_any (rb : Nat) (B : Option Addr) (l cap p : Nat) (m : Int) (w : World) (h : Rd w rb B l cap p) (hp : p ≤ 800000) (hm : m ≤ 1000) (hm1 : 1 ≤ m) :
    Calls Try.prog 38 #[.pointer (some ⟨rb, 0, none⟩), .int .i64 m] w (DrawnNetInt w rb B l cap p) := by
  have hrb := h.lt
  have H1 := h.keep ((Below.refl w.heap.size w).alloc (Nat.le_refl _) (.cells #[.int .i64 0, .slice none 0 0] 25)) hrb
  go_enter Try.func38, Try.ntmps38
  go_wp2_with fail
  refine (l20Net_any _ _ _ _ _ _ _ H1 (by omega) (by omega) (by omega)).mono ?_
  rintro e1 w1 ⟨n, A, c, es, q, rfl, own, n1, n7, hle, H2, hq, hg⟩
  have NB := NetBox2.start (n := n) (t' := 25) hrb own hg
  have H3 := H2.keep ((Below.refl w1.heap.size w1).alloc (Nat.le_refl _) (.cells #[.int .i64 n, .slice A es.length c] 25)) H2.lt
  clear H1 H2 own hg
  obtain ⟨c0, c1, r0, r1, g0, g1, _, _, o1, o2, o3, o4⟩ := id NB
  go_upto_if 13 with (fail)
  obtain ⟨W, hW⟩ : ∃ W, W = w1.alloc (.cells #[.int .i64 n, .slice A es.length c] 25) := ⟨_, rfl⟩
  clear c0 c1 r0 r1 g0 g1 o1 o2 o3 o4
  rw [← hW] at NB H3 ⊢
  clear hW
  generalize hnb : w1.heap.size = nb at *
  generalize hT : w.heap.size = T at *
  clear hnb hT
  obtain ⟨c0, c1, r0, r1, g0, g1, _, _, o1, o2, o3, o4⟩ := id NB
  by_cases h9 : 9 < es.length
  · go_wp2_with fail
    refine bodyPost_ret (v := .tuple #[.agg #[.int .i64 n, .slice A es.length c], .int .i64 0]) (by simp [results, Try.results38, go_sem, *]) rfl ?_
    exact NB.result H3 (by omega) (by omega) (by omega) (by omega) (by omega) (by omega)
  · have hl9 : es.length = 0 ∨ es.length = 1 ∨ es.length = 2 ∨ es.length = 3 ∨ es.length = 4 ∨ es.length = 5 ∨ es.length = 6 ∨ es.length = 7 ∨ es.length = 8 ∨ es.length = 9 := by omega
    obtain ⟨P1, hP1, p1, p2⟩ : ∃ P1 : Int, IntKind.i64.wrap (2 ^ (if (7 : Int) < (es.length : Int) then (7 : Int) else (es.length : Int)).toNat) = P1 ∧ 1 ≤ P1 ∧ P1 ≤ 128 := by
      refine ⟨_, rfl, ?_⟩
      rcases hl9 with h | h | h | h | h | h | h | h | h | h <;> rw [h] <;> decide
    obtain ⟨P2, hP2, p3, p4⟩ : ∃ P2 : Int, IntKind.i64.wrap (2 ^ es.length) = P2 ∧ 1 ≤ P2 ∧ P2 ≤ 512 := by
      refine ⟨_, rfl, ?_⟩
      rcases hl9 with h | h | h | h | h | h | h | h | h | h <;> rw [h] <;> decide
    obtain ⟨P0, hP0⟩ : ∃ P0 : Int, (if (7 : Int) < (es.length : Int) then (7 : Int) else (es.length : Int)) = P0 := ⟨_, rfl⟩
    rw [hP0] at hP1
    clear hl9
    go_wp2_with fail
    have c0' := NB.drew.n0
    have c1' := NB.drew.n1
    have hTn : T ≠ nb := by omega
    go_region_held3 (fun w' => w'.cell? ⟨nb, 0, none⟩ = some (.int .i64 n) ∧ w'.cell? ⟨nb, 1, none⟩ = some (.slice A es.length c)) (first | go_keep) (first
      | (go_simp; go_at_call 57; (with_reducible refine (pick_any _ _ _ _ _ (40 : Int) _ ((H3.drew.next m5).next m6) (by omega) (by omega)).mono ?_); rintro e7 w7 ⟨x7, m7, rfl, a7, b7, -, rfl⟩; have b7 := b7 (by omega); have NC := ((NB.drew.readOn q m5).readOn (q + 1) m6).readOn (q + 1 + 1) m7; have H5 := ((H3.drew.next m5).next m6).next m7; have wt7 : x7.tdiv 39 = x7 / 39 := Int.tdiv_eq_ediv_of_nonneg a7; have wu7 : IntKind.i64.wrap (x7 / 39) = x7 / 39 := IntWalk.i64_in _ (by omega); have wv7 : IntKind.i64.wrap (x7 / 39 * 900) = x7 / 39 * 900 := IntWalk.i64_in _ (by omega); have ws7 : IntKind.i64.wrap (x5 + M / 2 - x7 / 39 * 900) = x5 + M / 2 - x7 / 39 * 900 := IntWalk.i64_in _ (by omega); have d0 := NC.n0; have d1 := NC.n1; have d2 := NC.r0; have d3 := NC.r1; have d4 := NC.g0; have d5 := NC.g1)
      | (go_simp; go_at_call 57; (with_reducible refine (pick_any _ _ _ _ _ (2 : Int) _ (H3.drew.next m5) (by omega) (by omega)).mono ?_); rintro e6 w6 ⟨x6, m6, rfl, a6, b6, -, rfl⟩; have b6 := b6 (by omega); obtain ⟨M, hM, M0, M1⟩ := times_bit x6 P2 a6 b6 p3 p4; have wt6 : M.tdiv 2 = M / 2 := Int.tdiv_eq_ediv_of_nonneg M0; have wu6 : IntKind.i64.wrap (M / 2) = M / 2 := IntWalk.i64_in _ (by omega); have ws6 : IntKind.i64.wrap (x5 + M / 2) = x5 + M / 2 := IntWalk.i64_in _ (by omega); have NE := (NB.drew.readOn q m5).readOn (q + 1) m6; have u0 := NE.n0; have u1 := NE.n1)
      | (go_simp; go_at_call 57; (with_reducible refine (pick_any _ _ _ _ _ P1 _ H3.drew (by omega) (by omega)).mono ?_); rintro e5 w5 ⟨x5, m5, rfl, a5, b5, -, rfl⟩; have b5 := b5 (by omega); have f0 := (NB.drew.readOn q m5).n0; have f1 := (NB.drew.readOn q m5).n1))
    all_goals
      go_wp2_with fail
      refine bodyPost_ret (v := .tuple #[.agg #[.int .i64 n, .slice A es.length c], .int .i64 (x5 + M / 2 - x7 / 39 * 900)]) (by simp [results, Try.results38, go_sem, *]) rfl ?_
      exact NC.result H5 (by omega) (by omega) (by omega) (by omega) (by omega) (by omega)
end Go.Proofs.Ytikmkdonbfngeab
