/- The draws of a net and a tree of it, or another state. -/
import Derived.Test.YtmdmmebekicpkabDrawWhole
import Derived.Test.YtmdmmebekicpkabTreesOf
import Derived.Test.YtmdmmebekicpkabDrawR
namespace Go.Proofs.Ytmdmmebekicpkab
open Go.RowKit
set_option maxRecDepth 100000

theorem NetBox2.next {w wr wr' : World} {rb tb nb : Nat} {n : Int} {A : Option Addr} {c : Nat} {es : List (Int × Int)} (h : NetBox2 w wr rb tb nb n A c es) (hb : Below wr.heap.size wr wr') : NetBox2 w wr' rb tb nb n A c es := by
  have o1 := h.o1
  have o2 := h.o2
  have o4 := h.o4
  exact ⟨(hb.cell (p := ⟨nb, 0, none⟩) o4).trans h.n0, (hb.cell (p := ⟨nb, 1, none⟩) o4).trans h.n1, (hb.cell (p := ⟨tb, 0, none⟩) (by simp; omega)).trans h.r0, (hb.cell (p := ⟨tb, 1, none⟩) (by simp; omega)).trans h.r1,
    (hb.frozen (p := ⟨tb, 0, none⟩) (by simp; omega)).trans h.g0, (hb.frozen (p := ⟨tb, 1, none⟩) (by simp; omega)).trans h.g1, h.own.below hb h.own.lt, grown_below h.gr hb (by have := h.o3; omega), o1, o2, h.o3, Nat.lt_of_lt_of_le o4 hb.size⟩

/-- A net and a state have been drawn; of what was there only the reader turned. -/
def DrawnTr (w : World) (rb : Nat) (B : Option Addr) (l cap p : Nat) (e : Ending) (w' : World) : Prop :=
  ∃ (n : Int) (A : Option Addr) (c : Nat) (es : List (Int × Int)) (s : Int) (q : Nat), e = .returned (.tuple #[.agg #[.int .i64 n, .slice A es.length c], .int .i64 s]) ∧ OwnE w' w.heap.size (.slice A es.length c) es ∧
    1 ≤ n ∧ n ≤ 7 ∧ es.length ≤ 20 ∧ -1000 ≤ s ∧ s ≤ 1000 ∧ Rd w' rb B l cap q ∧ q ≤ p + 400 ∧ w.grownBy w' (some rb)
theorem NetBox2.tree {w wr : World} {rb tb nb : Nat} {n : Int} {A : Option Addr} {c : Nat} {es : List (Int × Int)} (h : NetBox2 w wr rb tb nb n A c es) {B : Option Addr} {l cap p q : Nat} {s : Int} (hr : Rd wr rb B l cap q) (hq : q ≤ p + 400) (h1 : 1 ≤ n) (h7 : n ≤ 7) (hle : es.length ≤ 20) (s1 : -1000 ≤ s) (s2 : s ≤ 1000) :
    DrawnTr w rb B l cap p (.returned (.tuple #[.agg #[.int .i64 n, .slice A es.length c], .int .i64 s])) ((wr.setCell ⟨tb, 0, none⟩ (.int .i64 n)).setCell ⟨tb, 1, none⟩ (.slice A es.length c)) := by
  have o1 := h.o1
  have o2 := h.o2
  have o3 := h.o3
  refine ⟨n, A, c, es, s, q, rfl, ((h.own.more (by omega)).far ?_ _).far ?_ _, h1, h7, hle, s1, s2, ?_, hq, ?_⟩
  · intro k hk; have := (World.ownsRow.lt h.own k hk).1; simp; omega
  · intro k hk; have := (World.ownsRow.lt h.own k hk).1; simp; omega
  · exact hr.keep (((Below.refl tb wr).setCell (by simp) _).setCell (by simp) _) o1
  · exact grown_below h.gr (((Below.refl tb wr).setCell (by simp) _).setCell (by simp) _) o3

set_option maxHeartbeats 8000000 in
theorem l20Tree_any (rb : Nat) (B : Option Addr) (l cap p : Nat) (w : World) (h : Rd w rb B l cap p) (hp : p ≤ 700000) :
    Calls Try.prog 60 #[.pointer (some ⟨rb, 0, none⟩)] w (DrawnTr w rb B l cap p) := by
  have hrb := h.lt
  have H1 := h.keep ((Below.refl w.heap.size w).alloc (Nat.le_refl _) (.cells #[.int .i64 0, .slice none 0 0] 25)) hrb
  go_enter Try.func60, Try.ntmps60
  go_wp2_with fail
  refine (l20Whole_any _ _ _ _ _ (12 : Int) _ H1 (by omega) (by omega) (by omega)).mono ?_
  rintro e1 w1 ⟨n, A, c, es, q, rfl, own, n1, n7, hle, H2, hq, hg⟩
  have NB := NetBox2.start (n := n) (t' := 25) hrb own hg
  have H3 := H2.keep ((Below.refl w1.heap.size w1).alloc (Nat.le_refl _) (.cells #[.int .i64 n, .slice A es.length c] 25)) H2.lt
  clear H1 H2 own hg
  obtain ⟨c0, c1, r0, r1, g0, g1, _, _, o1, o2, o3, o4⟩ := id NB
  obtain ⟨W, hW⟩ : ∃ W, W = w1.alloc (.cells #[.int .i64 n, .slice A es.length c] 25) := ⟨_, rfl⟩
  go_wp2_with fail
  clear c0 c1 r0 r1 g0 g1 o1 o2 o3 o4
  rw [← hW] at NB H3 ⊢
  clear hW
  generalize hnb : w1.heap.size = nb at *
  generalize hT : w.heap.size = T at *
  clear hnb
  refine (specTreesOf_any n A c es _ ((NB.own.edges).more (Nat.le_refl _)) (by omega)).mono ?_
  rintro e2 w2 ⟨A2, c2, rfl, own2, hb2⟩
  have NB2 := NB.next hb2
  have H4 := H3.keep hb2 H3.lt
  have own2 := own2.more (show T + 1 ≤ W.heap.size by have := NB.o4; have := NB.o2; omega)
  have hlen := treesN_len n es
  have hmem : ∀ (j : Nat) (y : Int), (natI (treesN n es))[j]? = some y → 0 ≤ y ∧ y ≤ 511 := fun j y hj => by
    obtain ⟨t, ht, rfl⟩ := List.mem_map.1 (show y ∈ (treesN n es).map (fun x : Nat => (x : Int)) from List.mem_of_getElem? hj)
    obtain ⟨m, e, -, h5⟩ := state_nat (treeB_ok (treesN_mem.1 ht))
    exact ⟨by omega, by omega⟩
  rw [← natI_length] at hlen
  have HMEM := Lib.hid hmem
  clear NB H3 hb2 hmem
  generalize natI (treesN n es) = ys at *
  generalize w2 = V at *
  obtain ⟨P0, hP0⟩ : ∃ P0 : Int, (if (8 : Int) < (es.length : Int) then (8 : Int) else (es.length : Int)) = P0 := ⟨_, rfl⟩
  obtain ⟨P1, hP1, p1, p2⟩ : ∃ P1 : Int, IntKind.i64.wrap (2 ^ P0.toNat) = P1 ∧ 1 ≤ P1 ∧ P1 ≤ 256 := by
    refine ⟨_, rfl, ?_⟩
    have : P0 = 0 ∨ P0 = 1 ∨ P0 = 2 ∨ P0 = 3 ∨ P0 = 4 ∨ P0 = 5 ∨ P0 = 6 ∨ P0 = 7 ∨ P0 = 8 := by
      rw [← hP0]; split <;> omega
    rcases this with h | h | h | h | h | h | h | h | h <;> rw [h] <;> decide
  -- the way on from a world in which another state is drawn
  by_cases hy0 : ys.length = 0
  · obtain ⟨c0, c1, r0, r1, g0, g1, _, _, o1, o2, o3, o4⟩ := id NB2
    have c0' := NB2.drew.n0
    have c1' := NB2.drew.n1
    have hTn : T ≠ nb := by omega
    rw [hy0]
    clear own2 HMEM hlen
    go_wp2_with fail
    go_region_held3 (fun w' => w'.cell? ⟨nb, 0, none⟩ = some (.int .i64 n) ∧ w'.cell? ⟨nb, 1, none⟩ = some (.slice A es.length c)) (first | go_keep) (first
      | (go_simp; go_at_call 56; (with_reducible refine (pick_any _ _ _ _ _ P1 _ H4.drew (by omega) (by omega)).mono ?_); rintro e5 w5 ⟨x5, m5, rfl, a5, b5, -, rfl⟩; have b5 := b5 (by omega); have NC := NB2.drew.readOn q m5; have H5 := H4.drew.next m5; have d0 := NC.n0; have d1 := NC.n1; have d2 := NC.r0; have d3 := NC.r1; have d4 := NC.g0; have d5 := NC.g1))
    all_goals
      go_wp2_with fail
      refine bodyPost_ret (v := .tuple #[.agg #[.int .i64 n, .slice A es.length c], .int .i64 x5]) (by simp [results, Try.results60, go_sem, *]) rfl ?_
      exact NC.tree H5 (by omega) (by omega) (by omega) (by omega) (by omega) (by omega)
  · have hyd : ((ys.length : Int) == 0) = false := beq_eq_false_iff_ne.2 (by omega)
    have hyz : ¬ ((ys.length : Int) = 0) := by omega
    obtain ⟨g, hform⟩ : ∃ g, (Value.slice A2 ys.length c2) = .slice (some ⟨g, 0, none⟩) ys.length c2 := by
      rcases own2.form with ⟨hv, hx⟩ | ⟨g, cc, hv, -, -⟩
      · rw [hx] at hy0; exact absurd rfl hy0
      · injection hv with h1 h2 h3; exact ⟨g, by rw [h1]⟩
    rw [hform] at own2 ⊢
    obtain ⟨ln, hln⟩ : ∃ ln, ys.length = ln := ⟨_, rfl⟩
    have HLN := Lib.hid hln
    rw [hln] at hyd hyz hlen own2 ⊢
    clear hform hln hy0
    obtain ⟨c0, c1, r0, r1, g0, g1, _, _, o1, o2, o3, o4⟩ := id NB2
    go_wp2_with fail
    refine (odd_any _ _ _ _ _ _ _ H4 (by omega) (by omega) (by omega)).mono ?_
    rintro e4 w4 ⟨bb, m4, rfl, rfl⟩
    have H5 := H4.next m4
    have NB3 := NB2.readOn q m4
    have own3 := readOn_ownI own2 rb q m4 (by omega)
    clear H4 NB2 own2 c0 c1 r0 r1 g0 g1 o1 o2 o3 o4
    obtain ⟨U, hU⟩ : ∃ U, U = readOn V rb q m4 := ⟨_, rfl⟩
    rw [← hU] at H5 NB3 own3 ⊢
    clear hU
    obtain ⟨c0, c1, r0, r1, g0, g1, _, _, o1, o2, o3, o4⟩ := id NB3
    have c0' := NB3.drew.n0
    have c1' := NB3.drew.n1
    have hTn : T ≠ nb := by omega
    cases bb with
    | true =>
      clear own3 HMEM hlen
      go_wp2_with fail
      go_region_held3 (fun w' => w'.cell? ⟨nb, 0, none⟩ = some (.int .i64 n) ∧ w'.cell? ⟨nb, 1, none⟩ = some (.slice A es.length c)) (first | go_keep) (first
        | (go_simp; go_at_call 56; (with_reducible refine (pick_any _ _ _ _ _ P1 _ H5.drew (by omega) (by omega)).mono ?_); rintro e5 w5 ⟨x5, m5, rfl, a5, b5, -, rfl⟩; have b5 := b5 (by omega); have NC := NB3.drew.readOn (q + 1) m5; have H6 := H5.drew.next m5; have d0 := NC.n0; have d1 := NC.n1; have d2 := NC.r0; have d3 := NC.r1; have d4 := NC.g0; have d5 := NC.g1))
      all_goals
        go_wp2_with fail
        refine bodyPost_ret (v := .tuple #[.agg #[.int .i64 n, .slice A es.length c], .int .i64 x5]) (by simp [results, Try.results60, go_sem, *]) rfl ?_
        exact NC.tree H6 (by omega) (by omega) (by omega) (by omega) (by omega) (by omega)
    | false =>
      have hgT := own3.ge g rfl
      have hgT1 : g ≠ T := by omega
      have hgT2 : T ≠ g := by omega
      go_wp2_with fail
      go_region_law (first
        | (go_simp; go_at_call 56; (with_reducible refine (pick_any _ _ _ _ _ (ln : Int) _ H5.drew (by omega) (by omega)).mono ?_); rintro e5 w5 ⟨x5, m5, rfl, a5, b5, -, rfl⟩; have b5 := b5 (by omega); have NC := NB3.drew.readOn (q + 1) m5; have H6 := H5.drew.next m5; have d0 := NC.n0; have d1 := NC.n1; have d2 := NC.r0; have d3 := NC.r1; have d4 := NC.g0; have d5 := NC.g1; obtain ⟨k5, rfl⟩ : ∃ k : Nat, x5 = k := ⟨x5.toNat, by omega⟩; have own4 := readOn_ownI (own3.drew) rb (q + 1) m5 (by omega); obtain ⟨y, hy⟩ : ∃ y, ys[k5]? = some y := ⟨_, List.getElem?_eq_getElem (by have := HLN.out; omega)⟩; obtain ⟨y0, y1⟩ := HMEM.out _ _ hy; obtain ⟨b', off', ee, _, gy⟩ := own4.ints k5 y hy; injection ee with ee; injection ee with ee1 ee2; subst ee1 ee2; rw [Nat.zero_add] at gy; clear own4 hy))
      all_goals
        go_wp2_with fail
        refine bodyPost_ret (v := .tuple #[.agg #[.int .i64 n, .slice A es.length c], .int .i64 y]) (by simp [results, Try.results60, go_sem, *]) rfl ?_
        exact NC.tree H6 (by omega) (by omega) (by omega) (by omega) (by omega) (by omega)
end Go.Proofs.Ytmdmmebekicpkab
