/- The draw of a net and a state, a least one where there is one. -/
import Derived.Test.YtdacfeebidhgnaaDrawSm2
import Derived.Test.YtdacfeebidhgnaaSpec11a
namespace Go.Proofs.Ytdacfeebidhgnaa
open Go.RowKit
set_option maxRecDepth 100000

structure ActBox (w wr : World) (rb nb B1 : Nat) (n : Int) (A : Option Addr) (c : Nat) (es : List (Int × Int)) : Prop where
  n0 : wr.cell? ⟨nb, 0, none⟩ = some (.int .i64 n)
  n1 : wr.cell? ⟨nb, 1, none⟩ = some (.slice A es.length c)
  r0 : wr.cell? ⟨w.heap.size, 0, none⟩ = some (.int .i64 0)
  r1 : wr.cell? ⟨w.heap.size, 1, none⟩ = some (.slice none 0 0)
  g0 : wr.frozen? ⟨w.heap.size, 0, none⟩ = false
  g1 : wr.frozen? ⟨w.heap.size, 1, none⟩ = false
  own : OwnE wr B1 (.slice A es.length c) es
  bel : Below w.heap.size w wr
  o1 : w.heap.size < rb
  o3 : rb < B1
  o2 : B1 ≤ nb
  o4 : nb < wr.heap.size
section
variable {w wr wr' : World} {rb nb B1 : Nat} {n : Int} {A : Option Addr} {c : Nat} {es : List (Int × Int)}
theorem ActBox.readOn (h : ActBox w wr rb nb B1 n A c es) (p m : Nat) : ActBox w (readOn wr rb p m) rb nb B1 n A c es := by
  have o1 := h.o1
  have o2 := h.o2
  have o3 := h.o3
  have o4 := h.o4
  exact ⟨(readOn_cell _ _ _ _ _ (by simp; omega)).trans h.n0, (readOn_cell _ _ _ _ _ (by simp; omega)).trans h.n1, (readOn_cell _ _ _ _ _ (by simp; omega)).trans h.r0, (readOn_cell _ _ _ _ _ (by simp; omega)).trans h.r1, (readOn_frozen ..).trans h.g0, (readOn_frozen ..).trans h.g1,
   readOn_own h.own _ _ _ (by omega), h.bel.trans (below_of_grown (readOn_grown ..) h.bel.size (by omega)), h.o1, h.o3, h.o2, by rw [readOn_size]; exact h.o4⟩
theorem ActBox.next (h : ActBox w wr rb nb B1 n A c es) (hb : Below wr.heap.size wr wr') : ActBox w wr' rb nb B1 n A c es := by
  have o1 := h.o1
  have o2 := h.o2
  have o3 := h.o3
  have o4 := h.o4
  exact ⟨(hb.cell (p := ⟨nb, 0, none⟩) o4).trans h.n0, (hb.cell (p := ⟨nb, 1, none⟩) o4).trans h.n1, (hb.cell (p := ⟨w.heap.size, 0, none⟩) (by simp; omega)).trans h.r0, (hb.cell (p := ⟨w.heap.size, 1, none⟩) (by simp; omega)).trans h.r1,
    (hb.frozen (p := ⟨w.heap.size, 0, none⟩) (by simp; omega)).trans h.g0, (hb.frozen (p := ⟨w.heap.size, 1, none⟩) (by simp; omega)).trans h.g1, h.own.below hb h.own.lt, h.bel.trans (hb.mono h.bel.size), o1, o3, o2, Nat.lt_of_lt_of_le o4 hb.size⟩
theorem ActBox.drew (h : ActBox w wr rb nb B1 n A c es) : ActBox w wr.drew rb nb B1 n A c es := h.next ((Below.refl _ _).drew)
theorem ActBox.result (h : ActBox w wr rb nb B1 n A c es) {s : Int} (h1 : 1 ≤ n) (h7 : n ≤ 7) (hle : es.length ≤ 20) (s1 : -1000 ≤ s) (s2 : s ≤ 1000) :
    GotNetInt w (.returned (.tuple #[.agg #[.int .i64 n, .slice A es.length c], .int .i64 s])) ((wr.setCell ⟨w.heap.size, 0, none⟩ (.int .i64 n)).setCell ⟨w.heap.size, 1, none⟩ (.slice A es.length c)) := by
  have o1 := h.o1
  have o3 := h.o3
  refine ⟨n, A, c, es, s, rfl, ((h.own.more (by omega)).far ?_ _).far ?_ _, h1, h7, hle, s1, s2, (h.bel.setCell (by simp) _).setCell (by simp) _⟩
  · intro k hk; have := (World.ownsRow.lt h.own k hk).1; simp; omega
  · intro k hk; have := (World.ownsRow.lt h.own k hk).1; simp; omega
end

set_option maxHeartbeats 4000000 in
theorem drawActiveOf_any (A : Option Addr) (l cap : Nat) (w : World) (hb : BytesIn w w.heap.size A l) (hl : l ≤ 1048576) (hc : l ≤ cap) :
    Calls Try.prog 58 #[.slice A l cap] w (GotNetInt w) := by
  have hbox := (Below.refl w.heap.size w).alloc (Nat.le_refl _) (.cells #[.int .i64 0, .slice none 0 0] 29)
  have hb' : BytesIn (w.alloc (.cells #[.int .i64 0, .slice none 0 0] 29)) (w.alloc (.cells #[.int .i64 0, .slice none 0 0] 29)).heap.size A l := (hb.keep fun p hp => hbox.cell hp).more (by simp)
  go_enter Try.func58, Try.ntmps58
  go_wp2_with fail
  refine (open_any _ _ _ _ hb' hl hc).mono ?_
  rintro e1 w1 ⟨rb, B, l1, c1, rfl, H1, hge, hb1⟩
  simp only [World.size_alloc] at hge
  have hrb1 := H1.lt
  go_wp2_with fail
  refine (l20Net_any _ _ _ _ _ _ _ H1 (by omega) (by omega) (by omega)).mono ?_
  rintro e2 w2 ⟨n, A2, c2, es, q, rfl, own, n1, n7, hle, H2, hq, hg⟩
  obtain ⟨q0, q1⟩ := tbox hb1 hg (by omega) 0
  obtain ⟨q2, q3⟩ := tbox hb1 hg (by omega) 1
  have hbel := tbelow hb1 hg (by omega)
  have hs := hb1.size
  have hgs := hg.size
  simp only [World.size_alloc] at hs
  have hbx := (Below.refl w2.heap.size w2).alloc (Nat.le_refl _) (.cells #[.int .i64 n, .slice A2 es.length c2] 29)
  have NB : ActBox w (w2.alloc (.cells #[.int .i64 n, .slice A2 es.length c2] 29)) rb w2.heap.size w1.heap.size n A2 c2 es :=
    ⟨by rw [World.cell?_alloc_at _ _ _ _ rfl]; rfl, by rw [World.cell?_alloc_at _ _ _ _ rfl]; rfl, (hbx.cell (p := ⟨w.heap.size, 0, none⟩) (by simp; omega)).trans q0, (hbx.cell (p := ⟨w.heap.size, 1, none⟩) (by simp; omega)).trans q2,
      (hbx.frozen (p := ⟨w.heap.size, 0, none⟩) (by simp; omega)).trans q1, (hbx.frozen (p := ⟨w.heap.size, 1, none⟩) (by simp; omega)).trans q3, own.below hbx own.lt, hbel.trans (hbx.mono (by omega)), by omega, hrb1, hgs, by simp⟩
  have H3 := H2.keep hbx H2.lt
  have hnW : w2.heap.size < (w2.alloc (.cells #[.int .i64 n, .slice A2 es.length c2] 29)).heap.size := by simp
  have hes : EdgesIn (w2.alloc (.cells #[.int .i64 n, .slice A2 es.length c2] 29)) (w2.alloc (.cells #[.int .i64 n, .slice A2 es.length c2] 29)).heap.size A2 es := NB.own.edges
  clear H1 H2 q0 q1 q2 q3 hbel hb1 own hbx hbox hb hb'
  have n0 := NB.n0
  have n1' := NB.n1
  go_wp2_with fail
  clear n0 n1'
  obtain ⟨W, hW⟩ : ∃ W, W = w2.alloc (.cells #[.int .i64 n, .slice A2 es.length c2] 29) := ⟨_, rfl⟩
  rw [← hW] at NB H3 hes hnW ⊢
  clear hW
  generalize w2.heap.size = nb at *
  generalize w1.heap.size = B1 at *
  refine (specBasesOf_any n A2 c2 es W hes (by omega)).mono ?_
  rintro e3 w3 ⟨B3, c3, rfl, own3, hb3⟩
  have NB4 := NB.next hb3
  have H4 := H3.keep hb3 H3.lt
  have hm5 := natBases_len n es
  have HV : ∀ k x, (natI (basesN n es))[k]? = some x → -1000 ≤ x ∧ x ≤ 1000 := fun k x hk => by
    have h1 := List.mem_of_getElem? hk
    unfold natI at h1
    rw [List.mem_map] at h1
    obtain ⟨t, ht, rfl⟩ := h1
    have h3 := basesN_mem.1 ht
    unfold leastV at h3
    rw [Bool.and_eq_true] at h3
    have h4 := stateOkB_iff.1 h3.1
    have h9 := (netOkB_iff.1 h4.1).2.1
    have hp9 : 2 ^ es.length ≤ 2 ^ 9 := Nat.pow_le_pow_right (by omega) h9
    have h5 := h4.2.2
    rw [show ((2 : Int) ^ es.length) = ((2 ^ es.length : Nat) : Int) by rw [Int.natCast_pow]; rfl] at h5
    generalize 2 ^ es.length = P at *
    omega
  generalize natI (basesN n es) = xs at *
  have hq4 : q ≤ 100 := by omega
  clear hes H3 NB hq hg hge hgs hs hrb1
  rcases Nat.eq_zero_or_pos xs.length with h0 | h0
  · have hx0 : ¬ (0 : Int) < xs.length := by omega
    have NBX := NB4
    have HX := H4
    obtain ⟨P1, hP1, p1, p2⟩ : ∃ P1 : Int, IntKind.i64.wrap (2 ^ (if (8 : Int) < (es.length : Int) then (8 : Int) else (es.length : Int)).toNat) = P1 ∧ 1 ≤ P1 ∧ P1 ≤ 256 := by
      refine ⟨_, rfl, ?_⟩
      by_cases h8 : 8 < es.length
      · rw [if_pos (by omega)]; decide
      · have hl9 : es.length = 0 ∨ es.length = 1 ∨ es.length = 2 ∨ es.length = 3 ∨ es.length = 4 ∨ es.length = 5 ∨ es.length = 6 ∨ es.length = 7 ∨ es.length = 8 := by omega
        rcases hl9 with h | h | h | h | h | h | h | h | h <;> rw [h] <;> decide
    obtain ⟨P0, hP0⟩ : ∃ P0 : Int, (if (8 : Int) < (es.length : Int) then (8 : Int) else (es.length : Int)) = P0 := ⟨_, rfl⟩
    rw [hP0] at hP1
    obtain ⟨n0, n1', r0, r1, g0, g1, _, _, o1, o3, o2, o4⟩ := id NBX
    go_wp2_with fail
    go_region_law (first
      | (go_simp; go_at_call 100; (with_reducible refine (pick_any _ _ _ _ _ P1 _ HX.drew (by omega) (by omega)).mono ?_); rintro e9 w9 ⟨x9, m9, rfl, a9, b9, -, rfl⟩; have b9 := b9 (by omega); have NC := NBX.drew.readOn (q) m9; have d0 := NC.n0; have d1 := NC.n1; have d2 := NC.r0; have d3 := NC.r1; have d4 := NC.g0; have d5 := NC.g1))
    all_goals
      go_wp2_with fail
      refine bodyPost_ret (v := .tuple #[.agg #[.int .i64 n, .slice A2 es.length c2], .int .i64 x9]) (by simp [results, Try.results58, go_sem, *]) rfl ?_
      exact NC.result (by omega) (by omega) (by omega) (by omega) (by omega)
  · have hx0 : (0 : Int) < xs.length := by omega
    obtain ⟨g, rfl⟩ : ∃ g, B3 = some ⟨g, 0, none⟩ := by
      rcases own3.form with ⟨_, hn⟩ | ⟨g, c', hv, _, _⟩
      · rw [hn] at h0; simp at h0
      · injection hv with hA; exact ⟨g, hA⟩
    have hgW := (World.ownsRow.lt own3 g rfl).1
    have HCX : ∀ k x, xs[k]? = some x → w3.cell? ⟨g, k, none⟩ = some (.int .i64 x) := fun k x hk => by
      obtain ⟨b, off, hA, _, hcl⟩ := own3.ints k x hk
      injection hA with hA
      injection hA with hb1 ho1
      subst hb1 ho1
      rwa [Nat.zero_add] at hcl
    have hgB : rb < g := by have := NB4.o1; have := NB4.o3; have := NB4.o2; have := hnW; omega
    go_wp2_with fail
    refine (pick_any _ _ _ _ _ _ _ H4 (by omega) (by omega)).mono ?_
    rintro e5 w5 ⟨x4, m4, rfl, a4, b4, -, rfl⟩
    have b4 := b4 (by omega)
    have NBX := NB4.readOn (q) m4
    have HX := H4.next m4
    have HCY : ∀ k x, xs[k]? = some x → (readOn w3 rb q m4).cell? ⟨g, k, none⟩ = some (.int .i64 x) := fun k x hk => (readOn_cell _ _ _ _ _ (by simp; omega)).trans (HCX k x hk)
    clear NB4 H4 HCX own3 hb3
    generalize readOn w3 rb q m4 = w5 at *
    by_cases hx4 : 0 < x4
    · skip
      obtain ⟨n0, n1', r0, r1, g0, g1, _, _, o1, o3, o2, o4⟩ := id NBX
      go_wp2_with fail
      go_region_law (first
        | (go_simp; go_at_call 100; (with_reducible refine (pick_any _ _ _ _ _ (xs.length : Int) _ HX.drew (by omega) (by omega)).mono ?_); rintro e9 w9 ⟨x9, m9, rfl, a9, b9, -, rfl⟩; have b9 := b9 (by omega); obtain ⟨k9, hk9⟩ : ∃ k9 : Nat, x9 = (k9 : Nat) := ⟨x9.toNat, by omega⟩; subst hk9; have hkl : k9 < xs.length := (by omega); have hkI : (k9 : Int) < xs.length := (by omega); have NC := NBX.drew.readOn (q + 1) m9; have d0 := NC.n0; have d1 := NC.n1; have d2 := NC.r0; have d3 := NC.r1; have d4 := NC.g0; have d5 := NC.g1; obtain ⟨v, hv⟩ : ∃ v, xs[k9]? = some v := ⟨_, List.getElem?_eq_getElem hkl⟩; have d6 := (readOn_cell w5.drew rb (q + 1) m9 ⟨g, k9, none⟩ (show g ≠ rb by omega)).trans (HCY k9 v hv); obtain ⟨v1, v2⟩ := HV k9 v hv))
      all_goals
        go_wp2_with fail
        refine bodyPost_ret (v := .tuple #[.agg #[.int .i64 n, .slice A2 es.length c2], .int .i64 v]) (by simp [results, Try.results58, go_sem, *]) rfl ?_
        exact NC.result (by omega) (by omega) (by omega) (by omega) (by omega)
    · have hx5 : ¬ 0 < x4 := hx4
      obtain ⟨P1, hP1, p1, p2⟩ : ∃ P1 : Int, IntKind.i64.wrap (2 ^ (if (8 : Int) < (es.length : Int) then (8 : Int) else (es.length : Int)).toNat) = P1 ∧ 1 ≤ P1 ∧ P1 ≤ 256 := by
        refine ⟨_, rfl, ?_⟩
        by_cases h8 : 8 < es.length
        · rw [if_pos (by omega)]; decide
        · have hl9 : es.length = 0 ∨ es.length = 1 ∨ es.length = 2 ∨ es.length = 3 ∨ es.length = 4 ∨ es.length = 5 ∨ es.length = 6 ∨ es.length = 7 ∨ es.length = 8 := by omega
          rcases hl9 with h | h | h | h | h | h | h | h | h <;> rw [h] <;> decide
      obtain ⟨P0, hP0⟩ : ∃ P0 : Int, (if (8 : Int) < (es.length : Int) then (8 : Int) else (es.length : Int)) = P0 := ⟨_, rfl⟩
      rw [hP0] at hP1
      obtain ⟨n0, n1', r0, r1, g0, g1, _, _, o1, o3, o2, o4⟩ := id NBX
      go_wp2_with fail
      go_region_law (first
        | (go_simp; go_at_call 100; (with_reducible refine (pick_any _ _ _ _ _ P1 _ HX.drew (by omega) (by omega)).mono ?_); rintro e9 w9 ⟨x9, m9, rfl, a9, b9, -, rfl⟩; have b9 := b9 (by omega); have NC := NBX.drew.readOn (q + 1) m9; have d0 := NC.n0; have d1 := NC.n1; have d2 := NC.r0; have d3 := NC.r1; have d4 := NC.g0; have d5 := NC.g1))
      all_goals
        go_wp2_with fail
        refine bodyPost_ret (v := .tuple #[.agg #[.int .i64 n, .slice A2 es.length c2], .int .i64 x9]) (by simp [results, Try.results58, go_sem, *]) rfl ?_
        exact NC.result (by omega) (by omega) (by omega) (by omega) (by omega)
end Go.Proofs.Ytdacfeebidhgnaa
