/- l20Whole: a net that is often whole is drawn. -/
import Derived.Test.YtmdmmebekicpkabDraws
import Derived.Deep.AppendLies
import Derived.Deep.DeepCutAuto
import Derived.Deep.RegionLaw
import Derived.Deep.CutBlock
namespace Go.Proofs.Ytmdmmebekicpkab
open Go.RowKit
set_option maxRecDepth 100000

/-- As DrawnNet, with more read. -/
def DrawnW (w : World) (rb : Nat) (B : Option Addr) (l cap p : Nat) (e : Ending) (w' : World) : Prop :=
  ∃ (n : Int) (A : Option Addr) (c : Nat) (es : List (Int × Int)) (q : Nat), e = .returned (.agg #[.int .i64 n, .slice A es.length c]) ∧ OwnE w' w.heap.size (.slice A es.length c) es ∧
    1 ≤ n ∧ n ≤ 7 ∧ es.length ≤ 20 ∧ Rd w' rb B l cap q ∧ q ≤ p + 200 ∧ w.grownBy w' (some rb)
theorem DrawnNet.w {w w' : World} {rb : Nat} {B : Option Addr} {l cap p q : Nat} {e : Ending} (h : DrawnNet w rb B l cap q e w') (hq : q ≤ p + 100) : DrawnW w rb B l cap p e w' := by
  obtain ⟨n, A, c, es, q', h1, h2, h3, h4, h5, h6, h7, h8⟩ := h
  exact ⟨n, A, c, es, q', h1, h2, h3, h4, h5, h6, by omega, h8⟩

set_option maxHeartbeats 8000000 in
theorem l20Whole_any (rb : Nat) (B : Option Addr) (l cap p : Nat) (n : Int) (w : World) (h : Rd w rb B l cap p) (hp : p ≤ 800000) (hn : n ≤ 1000) (hn1 : 1 ≤ n) :
    Calls Try.prog 53 #[.pointer (some ⟨rb, 0, none⟩), .int .i64 n] w (DrawnW w rb B l cap p) := by
  obtain ⟨i0, hi0, hz0, hz1, hz2⟩ := info_parts edge_info
  have hrb := h.lt
  have H1 := h.keep ((Below.refl w.heap.size w).alloc (Nat.le_refl _) (.cells #[.int .i64 0, .slice none 0 0] 25)) hrb
  go_enter Try.func53, Try.ntmps53
  go_wp2_with fail
  refine (pick_any _ _ _ _ _ _ _ H1 (by omega) (by omega)).mono ?_
  rintro e1 w1 ⟨x1, m1, rfl, a1, b1, -, rfl⟩
  have b1 := b1 (by omega)
  have H3 := H1.next m1
  obtain ⟨W, hW⟩ : ∃ W, W = readOn (w.alloc (.cells #[.int .i64 0, .slice none 0 0] 25)) rb p m1 := ⟨_, rfl⟩
  have hs : W.heap.size = w.heap.size + 1 := by rw [hW, readOn_size]; simp
  have r0 : W.cell? ⟨w.heap.size, 0, none⟩ = some (.int .i64 0) := by
    rw [hW, readOn_cell _ _ _ _ _ (by simp; omega), World.cell?_alloc_at _ _ _ _ rfl]; rfl
  have r1 : W.cell? ⟨w.heap.size, 1, none⟩ = some (.slice none 0 0) := by
    rw [hW, readOn_cell _ _ _ _ _ (by simp; omega), World.cell?_alloc_at _ _ _ _ rfl]; rfl
  have g : ∀ i, W.frozen? ⟨w.heap.size, i, none⟩ = false := fun i => by
    rw [hW, readOn_frozen]; exact World.frozen?_alloc_at _ _ _ _ rfl
  have hgr : w.grownBy W (some rb) := by
    rw [hW]; exact grown_trans (World.grownBy_alloc _ _ _) (readOn_grown ..)
  rw [← hW] at H3 ⊢
  clear hW H1
  have hx : 2 + x1 ≤ 7 ∧ 2 ≤ 2 + x1 := by omega
  have NB : NetBox w (W.alloc (.cells #[.int .i64 (2 + x1), .slice none 0 0] 25)) rb w.heap.size W.heap.size (2 + x1) none 0 [] := by
    refine ⟨by rw [World.cell?_alloc_at _ _ _ _ rfl]; rfl, by rw [World.cell?_alloc_at _ _ _ _ rfl]; rfl, World.frozen?_alloc_at _ _ _ _ rfl, World.frozen?_alloc_at _ _ _ _ rfl, ?_, ?_, ?_, ?_, OwnE.nil _ _, ?_, hrb, by omega, Nat.le_refl _, by simp⟩
    · rw [World.cell?_alloc_past _ _ _ (by omega)]; exact r0
    · rw [World.cell?_alloc_past _ _ _ (by omega)]; exact r1
    · rw [World.frozen?_alloc_old _ _ _ (by simp; omega)]; exact g 0
    · rw [World.frozen?_alloc_old _ _ _ (by simp; omega)]; exact g 1
    · exact grown_below hgr ((Below.refl W.heap.size W).alloc (Nat.le_refl _) _) (by omega)
  have H4 := H3.keep ((Below.refl W.heap.size W).alloc (Nat.le_refl _) (.cells #[.int .i64 (2 + x1), .slice none 0 0] 25)) (by omega)
  have w1 : IntKind.i64.wrap (2 + x1) = 2 + x1 := IntWalk.i64_in _ (by omega)
  go_wp2_with fail
  generalize hN : 2 + x1 = N at *
  obtain ⟨nb, hnb⟩ : ∃ nb, nb = w.heap.size + 1 := ⟨_, rfl⟩
  obtain ⟨V, hV⟩ : ∃ V, V = W.alloc (.cells #[.int .i64 N, .slice none 0 0] 25) := ⟨_, rfl⟩
  have hN6 : N ≤ 5 := by omega
  clear hN w1
  rw [← hV] at NB H4 ⊢
  rw [hs] at NB
  rw [← hnb] at NB ⊢
  clear hV hnb hs r0 r1 g hgr H3
  have H5 := H4
  have NB5 := NB
  clear H4 NB
  generalize hq : p + 1 = q at *
  have hq' : q ≤ p + 3 := by omega
  clear hq
  generalize hT : w.heap.size = T at *
  go_loopw [6] (fun kk wr => ∃ (k : Int) (A : Option Addr) (c : Nat) (es : List (Int × Int)) (q : Nat), 2 ≤ k ∧ k ≤ N + 1 ∧ kk = .int .i64 k ∧ (es.length : Int) = k - 2 ∧ NetBox w wr rb T nb N A c es ∧ Rd wr rb B l cap q ∧ (q : Int) ≤ p + 1 + k) (fun kk _ => (9 - intOf kk).toNat)
  case atStart => exact ⟨2, none, 0, [], q, by omega, by omega, rfl, rfl, NB5, H5, by omega⟩
  case round =>
    clear NB5 H5 hq'
    obtain ⟨k, A, c, es, q', hk1, hk2, rfl, hlen, NB6, H6, hq6⟩ := hrel
    have HL := Lib.hid hlen
    have hlen9 : es.length ≤ 6 := by omega
    clear hlen
    obtain ⟨n0, n1, f0, f1, _, _, _, _, own, _, o1, o2, o3, o4⟩ := id NB6
    by_cases hkN : k ≤ N
    · have OW := Lib.hid own
      clear own
      have wk : IntKind.i64.wrap (k - 1) = k - 1 := IntWalk.i64_in _ (by omega)
      go_wp2_with fail
      go_region_law (first
        | (refine step_append_lies _ (by rfl) (.tmp 20) (.tmp 28) 23 (by rfl) (nb + 1) 55 i0 _ 2 16 Try.underlying23 hi0 hz0 hz1 hz2 rfl (by omega) (.slice A es.length c) es.length (flat es) (by simp [Act.eval]) (World.ownsRow.alloc (readOn_own OW.out rb q' m4 (by omega)) _)
            ⟨(readOn wr.drew rb q' m4).heap.size, 0, none⟩ 1 1 [.int .i64 (1 + x4), .int .i64 k] (by simp [Act.eval]) (by rfl) (World.news_of_block (cs := #[.int .i64 (1 + x4), .int .i64 k]) (t := 55) (fr := (0, 0)) (heap_alloc_new _ _)) (by simp [Value.oneCell']) (by omega) (by simp [maxLen]; omega) (by omega) (by simp [readOn_size]; omega) _ rfl ?_; intro gg cc w5 hown5 hgrow hat hlt
           have NB7 := NB6.drew.readOn q' m4
           have hbel : Below (nb + 1) (readOn wr.drew rb q' m4) w5 := ((Below.refl (nb + 1) (readOn wr.drew rb q' m4)).alloc (by rw [readOn_size]; simp; omega) _).grown hgrow (by simp [readOn_size]; omega) (fun j hj => (World.ownsRow.lt OW.out j hj).1)
           obtain ⟨_, k1, _, k3⟩ := NB7.held hbel
           have HB := Lib.hid hbel
           clear hbel)
        | (go_simp; go_at_call 56; refine (pick_any _ _ _ _ _ _ _ H6.drew (by omega) (by omega)).mono ?_; rintro e4 w4 ⟨x4, m4, rfl, a4, b4, -, rfl⟩; have b4 := b4 (by omega); have wx : IntKind.i64.wrap (1 + x4) = 1 + x4 := IntWalk.i64_in _ (by omega); have z1 := (NB6.drew.readOn q' m4).n1; have z2 := (NB6.drew.readOn q' m4).o4))
      all_goals
        have NB8 := NB7.edges HB.out (es' := es ++ [(1 + x4, k)]) (by unfold OwnE; rw [flat_append, List.length_append]; exact hown5)
        have H8 := (H6.drew.next m4).far (v := .slice (some ⟨gg, 0, none⟩) (es ++ [(1 + x4, k)]).length cc) HB.out (by omega)
        rw [List.length_append] at NB8 H8
        go_wp2_with fail
        go_roundw
        case rel => exact ⟨k + 1, _, _, _, q' + 1, by omega, by omega, by go_num, by have := HL.out; simp; omega, NB8, H8, by omega⟩
        case measure => simp [intOf]; omega
    · clear own
      have H6 := H6
      have wN1 : IntKind.i64.wrap (N - 1) = N - 1 := IntWalk.i64_in _ (by omega)
      go_wp2_with fail
      refine (pick_any _ _ _ _ _ _ _ H6 (by omega) (by omega)).mono ?_
      rintro e5 w5 ⟨x5, m5, rfl, a5, b5, -, rfl⟩
      have b5 := b5 (by omega)
      have H7 := H6.next m5
      have NB7 := NB6.readOn q' m5
      have hle : es.length ≤ 4 := by have := HL.out; omega
      clear H6 NB6 n0 n1 f0 f1 HL
      go_wp2_with fail
      go_loopw [7] (fun kk wr => ∃ (j : Int) (A : Option Addr) (c : Nat) (es : List (Int × Int)) (q : Nat), 0 ≤ j ∧ j ≤ 3 ∧ kk = .int .i64 j ∧ (es.length : Int) + j ≤ 7 ∧ NetBox w wr rb T nb N A c es ∧ Rd wr rb B l cap q ∧ (q : Int) + 2 * j ≤ p + 30) (fun kk _ => (intOf kk).toNat)
      case atStart => exact ⟨x5, A, c, es, q' + 1, by omega, by omega, rfl, by omega, NB7, H7, by omega⟩
      case round =>
        clear NB7 H7
        obtain ⟨j, A, c, es, q2, hj0, hj4, rfl, hlen, NB8, H8, hq8⟩ := hrel
        obtain ⟨n0, n1, f0, f1, _, _, _, _, own, _, o1, o2, o3, o4⟩ := id NB8
        have OW := Lib.hid own
        clear own
        by_cases hj : 0 < j
        · by_cases h8 : es.length < 8
          · go_wp2_with fail
            refine (pick_any _ _ _ _ _ _ _ H8 (by omega) (by omega)).mono ?_
            rintro e6 w6 ⟨x6, m6, rfl, a6, b6, -, rfl⟩
            have b6 := b6 (by omega)
            have H9 := H8.next m6
            have NB9 := NB8.readOn q2 m6
            clear H8 NB8 n0 n1 f0 f1 OW
            obtain ⟨W9, hW9⟩ : ∃ W9, W9 = readOn wr rb q2 m6 := ⟨_, rfl⟩
            rw [← hW9] at H9 NB9 ⊢
            clear hW9
            generalize hq9 : q2 + 1 = q9 at *
            have hq9' : (q9 : Int) ≤ p + 31 - 2 * j := by omega
            clear hq9
            obtain ⟨n0, n1, f0, f1, _, _, _, _, own, _, o1, o2, o3, o4⟩ := id NB9
            have OW := Lib.hid own
            clear own
            have wa : IntKind.i64.wrap (1 + x6) = 1 + x6 := IntWalk.i64_in _ (by omega)
            have wb : IntKind.i64.wrap (1 + x6 + 1) = 1 + x6 + 1 := IntWalk.i64_in _ (by omega)
            have wc' : IntKind.i64.wrap (N - (1 + x6)) = N - (1 + x6) := IntWalk.i64_in _ (by omega)
            go_wp2_with fail
            go_region_law (first
              | (refine step_append_lies _ (by rfl) (.tmp 44) (.tmp 56) 23 (by rfl) (nb + 1) 55 i0 _ 2 16 Try.underlying23 hi0 hz0 hz1 hz2 rfl (by omega) (.slice A es.length c) es.length (flat es) (by simp [Act.eval]) (World.ownsRow.alloc (readOn_own OW.out rb q9 m7 (by omega)) _)
                  ⟨(readOn W9.drew rb q9 m7).heap.size, 0, none⟩ 1 1 [.int .i64 (1 + x6), .int .i64 (1 + x6 + 1 + x7)] (by simp [Act.eval]) (by rfl) (World.news_of_block (cs := #[.int .i64 (1 + x6), .int .i64 (1 + x6 + 1 + x7)]) (t := 55) (fr := (0, 0)) (heap_alloc_new _ _)) (by simp [Value.oneCell']) (by omega) (by simp [maxLen]; omega) (by omega) (by simp [readOn_size]; omega) _ rfl ?_; intro gg cc w5 hown5 hgrow hat hlt
                 have NB10 := NB9.drew.readOn q9 m7
                 have hbel : Below (nb + 1) (readOn W9.drew rb q9 m7) w5 := ((Below.refl (nb + 1) (readOn W9.drew rb q9 m7)).alloc (by rw [readOn_size]; simp; omega) _).grown hgrow (by simp [readOn_size]; omega) (fun j hj => (World.ownsRow.lt OW.out j hj).1)
                 obtain ⟨_, k1, _, k3⟩ := NB10.held hbel
                 have HB := Lib.hid hbel
                 clear hbel)
              | (go_simp; go_at_call 56; refine (pick_any _ _ _ _ _ _ _ H9.drew (by omega) (by omega)).mono ?_; rintro e7 w7 ⟨x7, m7, rfl, a7, b7, -, rfl⟩; have b7 := b7 (by omega); have wx : IntKind.i64.wrap (1 + x6 + 1 + x7) = 1 + x6 + 1 + x7 := IntWalk.i64_in _ (by omega); have z0 := (NB9.drew.readOn q9 m7).n0; have z1 := (NB9.drew.readOn q9 m7).n1; have z2 := (NB9.drew.readOn q9 m7).o4))
            all_goals
              have NB11 := NB10.edges HB.out (es' := es ++ [(1 + x6, 1 + x6 + 1 + x7)]) (by unfold OwnE; rw [flat_append, List.length_append]; exact hown5)
              have H11 := (H9.drew.next m7).far (v := .slice (some ⟨gg, 0, none⟩) (es ++ [(1 + x6, 1 + x6 + 1 + x7)]).length cc) HB.out (by omega)
              rw [List.length_append] at NB11 H11
              go_wp2_with fail
              go_roundw
              case rel => exact ⟨j - 1, _, _, _, q9 + 1, by omega, by omega, by go_num, by simp; omega, NB11, H11, by omega⟩
              case measure => simp [intOf]; omega
          · exact absurd (show es.length < 8 by omega) h8
        · have hjd : decide (0 < j) = false := by simpa using hj
          obtain rfl : j = 0 := by omega
          have hle : es.length ≤ 7 := by omega
          clear hlen
          go_wp2_with fail
          refine (odd_any _ _ _ _ _ _ _ H8 (by omega) (by omega) hn1).mono ?_
          rintro e6 w6 ⟨b, m6, rfl, rfl⟩
          have H9 := H8.next m6
          have NB9 := NB8.readOn q2 m6
          clear H8 NB8 n0 n1 f0 f1
          obtain ⟨W9, hW9⟩ : ∃ W9, W9 = readOn wr rb q2 m6 := ⟨_, rfl⟩
          rw [← hW9] at H9 NB9 ⊢
          clear hW9
          obtain ⟨n0, n1, f0, f1, r0, r1, g0, g1, _, gr, o1, o2, o3, o4⟩ := id NB9
          cases b
          · go_wp2_with fail
            refine bodyPost_ret (v := .agg #[.int .i64 N, .slice A es.length c]) (by simp [results, Try.results53, go_sem, *]) rfl ?_
            exact (NB9.result (p := p) H9 (by omega) (by omega) (by omega) (by omega)).w (by omega)
          · go_wp2_with fail
            refine (l20Net_any _ _ _ _ _ (3 : Int) _ H9 (by omega) (by omega) (by omega)).mono ?_
            rintro e7 w7 ⟨n', A', c', es', q', rfl, own', n1', n7', hle', HA, hqA, hg⟩
            have hblk : w7.heap[T]? = W9.heap[T]? := hg.block T (by omega) (fun e => by have := Option.some.inj e; omega)
            have y0 := (World.cell?_of_block (a := ⟨T, 0, none⟩) hblk).trans r0
            have y1 := (World.cell?_of_block (a := ⟨T, 1, none⟩) hblk).trans r1
            have y2 : w7.frozen? ⟨T, 0, none⟩ = false := by simp only [World.frozen?, hblk]; exact g0
            have y3 : w7.frozen? ⟨T, 1, none⟩ = false := by simp only [World.frozen?, hblk]; exact g1
            have hge := fun k hk => (World.ownsRow.lt own' k hk).1
            have hB : Below T w7 ((w7.setCell ⟨T, 0, none⟩ (.int .i64 n')).setCell ⟨T, 1, none⟩ (.slice A' es'.length c')) := ((Below.refl _ _).setCell (by simp) _).setCell (by simp) _
            clear NB9 n0 n1 f0 f1 r0 r1 g0 g1 hblk
            go_wp2_with fail
            refine bodyPost_ret (v := .agg #[.int .i64 n', .slice A' es'.length c']) (by simp [results, Try.results53, go_sem, *]) rfl ?_
            refine ⟨n', A', c', es', q', rfl, OwnE.far (OwnE.far (own'.more (by omega)) ?_ _) ?_ _, n1', n7', hle', HA.keep hB o1, by omega, grown_below (grown_trans gr hg) hB o3⟩
            · intro k hk; have := hge k hk; simp; omega
            · intro k hk; have := hge k hk; simp; omega
end Go.Proofs.Ytmdmmebekicpkab
