/- The draws of two families. -/
import Derived.Test.YtmdmmebekicpkaaDraw8
import Derived.Test.YtmdmmebekicpkaaFamO
namespace Go.Proofs.Ytmdmmebekicpkaa
open Go.RowKit
set_option maxRecDepth 100000

theorem BoxAt.kept {u u' : World} {bx rb : Nat} (h : BoxAt u bx) (hg : u.grownBy u' (some rb)) (hne : rb ≠ bx) : BoxAt u' bx := by
  have hblk : u'.heap[bx]? = u.heap[bx]? := hg.block bx h.lt (fun e => hne (Option.some.inj e).symm)
  exact ⟨(World.cell?_of_block (a := ⟨bx, 0, none⟩) hblk).trans h.c0, (World.cell?_of_block (a := ⟨bx, 1, none⟩) hblk).trans h.c1,
    by simp only [World.frozen?, hblk]; exact h.f0, by simp only [World.frozen?, hblk]; exact h.f1, Nat.lt_of_lt_of_le h.lt hg.size⟩

/-- A family drawn, in a box; two boxes for what is to be given back. -/
structure FamsSt (w u : World) (rb b : Nat) (B : Option Addr) (l cap q : Nat) (t : Int) (A : Option Addr) (m c : Nat) (xs : List Int) : Prop where
  rd : Rd u rb B l cap q
  z1 : BoxAt u w.heap.size
  z2 : BoxAt u (w.heap.size + 1)
  c0 : u.cell? ⟨b, 0, none⟩ = some (.int .i64 t)
  c1 : u.cell? ⟨b, 1, none⟩ = some (.slice A m c)
  own : OwnI u (w.heap.size + 2) (.slice A m c) xs
  gr : w.grownBy u (some rb)
  hr : rb < w.heap.size
  bl : w.heap.size + 2 ≤ b
  bh : b < u.heap.size
section
variable {w u u' : World} {rb b : Nat} {B : Option Addr} {l cap q q' : Nat} {t : Int} {A : Option Addr} {m c : Nat} {xs : List Int}
theorem FamsSt.grown (h : FamsSt w u rb b B l cap q t A m c xs) (hg : u.grownBy u' (some rb)) (rd : Rd u' rb B l cap q') : FamsSt w u' rb b B l cap q' t A m c xs := by
  have hr := h.hr
  have bl := h.bl
  have hblk : u'.heap[b]? = u.heap[b]? := hg.block b h.bh (fun e => by have := Option.some.inj e; omega)
  refine ⟨rd, h.z1.kept hg (by omega), h.z2.kept hg (by omega), (World.cell?_of_block (a := ⟨b, 0, none⟩) hblk).trans h.c0, (World.cell?_of_block (a := ⟨b, 1, none⟩) hblk).trans h.c1, World.ownsRow.kept h.own hg ?_, grown_trans h.gr hg, hr, bl, Nat.lt_of_lt_of_le h.bh hg.size⟩
  cases ho : (Value.slice A m c).ownBlock with
  | none => exact .inl rfl
  | some j =>
    refine .inr fun e => ?_
    have h1 := World.ownsRow.lt h.own j ho
    have h2 := Option.some.inj e
    omega
theorem FamsSt.read (h : FamsSt w u rb b B l cap q t A m c xs) (k : Nat) : FamsSt w (readOn u rb q k) rb b B l cap (q + 1) t A m c xs := h.grown (readOn_grown u rb q k) (h.rd.next k)
theorem FamsSt.drew (h : FamsSt w u rb b B l cap q t A m c xs) : FamsSt w u.drew rb b B l cap q t A m c xs :=
  ⟨h.rd.drew, h.z1.drew, h.z2.drew, h.c0, h.c1, h.own, grown_below h.gr ((Below.refl u.heap.size u).drew) h.gr.size, h.hr, h.bl, h.bh⟩
end

/-- Two families drawn. -/
def DrewTwo (w : World) (rb : Nat) (B : Option Addr) (l cap p : Nat) (e : Ending) (w' : World) : Prop :=
  ∃ (t : Int) (A : Option Addr) (c : Nat) (xs : List Int) (s : Int) (A2 : Option Addr) (d : Nat) (ys : List Int) (q : Nat), e = .returned (.tuple #[.agg #[.int .i64 t, .slice A xs.length c], .agg #[.int .i64 s, .slice A2 ys.length d]]) ∧ OwnI w' w.heap.size (.slice A xs.length c) xs ∧ OwnI w' w.heap.size (.slice A2 ys.length d) ys ∧ (-1 ≤ t ∧ t ≤ 7) ∧ xs.length ≤ 65 ∧ (-1 ≤ s ∧ s ≤ 7) ∧ ys.length ≤ 65 ∧ Rd w' rb B l cap q ∧ q ≤ p + 30 ∧ w.grownBy w' (some rb)

/-- Both families laid in the boxes. -/
theorem FamsSt.two {w u : World} {rb b : Nat} {B : Option Addr} {l cap q p : Nat} {t s : Int} {A A2 : Option Addr} {c d lo : Nat} {xs ys : List Int} (h : FamsSt w u rb b B l cap q t A xs.length c xs) (own2 : OwnI u lo (.slice A2 ys.length d) ys) (hlo : w.heap.size + 2 ≤ lo)
    (h1 : -1 ≤ t ∧ t ≤ 7) (h2 : xs.length ≤ 65) (h3 : -1 ≤ s ∧ s ≤ 7) (h4 : ys.length ≤ 65) (h5 : q ≤ p + 30) :
    DrewTwo w rb B l cap p (.returned (.tuple #[.agg #[.int .i64 t, .slice A xs.length c], .agg #[.int .i64 s, .slice A2 ys.length d]])) ((((u.setCell ⟨w.heap.size, 0, none⟩ (.int .i64 t)).setCell ⟨w.heap.size, 1, none⟩ (.slice A xs.length c)).setCell ⟨w.heap.size + 1, 0, none⟩ (.int .i64 s)).setCell ⟨w.heap.size + 1, 1, none⟩ (.slice A2 ys.length d)) := by
  have hge := h.own.ge
  have hge2 := own2.ge
  have hB : Below w.heap.size u ((((u.setCell ⟨w.heap.size, 0, none⟩ (.int .i64 t)).setCell ⟨w.heap.size, 1, none⟩ (.slice A xs.length c)).setCell ⟨w.heap.size + 1, 0, none⟩ (.int .i64 s)).setCell ⟨w.heap.size + 1, 1, none⟩ (.slice A2 ys.length d)) := ((((Below.refl _ _).setCell (by simp) _).setCell (by simp) _).setCell (by simp) _).setCell (by simp) _
  refine ⟨t, A, c, xs, s, A2, d, ys, q, rfl, OwnI.far (OwnI.far (OwnI.far (OwnI.far (h.own.more (by omega)) ?_ _) ?_ _) ?_ _) ?_ _, OwnI.far (OwnI.far (OwnI.far (OwnI.far (own2.more (by omega)) ?_ _) ?_ _) ?_ _) ?_ _, h1, h2, h3, h4, h.rd.keep hB h.hr, h5, grown_below h.gr hB (Nat.le_refl _)⟩
  all_goals first
    | (intro k hk; have := hge k hk; simp; omega)
    | (intro k hk; have := hge2 k hk; simp; omega)

set_option maxHeartbeats 8000000 in
theorem l20Fams_any (rb : Nat) (B : Option Addr) (l cap p : Nat) (w : World) (h : Rd w rb B l cap p) (hp : p ≤ 700000) :
    Calls Try.prog 67 #[.pointer (some ⟨rb, 0, none⟩)] w (DrewTwo w rb B l cap p) := by
  have hrb := h.lt
  have Z1 := BoxAt.start w 27
  have Z2 := BoxAt.start (w.alloc (.cells #[.int .i64 0, .slice none 0 0] 27)) 27
  rw [World.size_alloc] at Z2
  have b0 := (Below.refl w.heap.size w).alloc (Nat.le_refl _) (.cells #[.int .i64 0, .slice none 0 0] 27)
  have b1 := (Below.refl (w.heap.size + 1) (w.alloc (.cells #[.int .i64 0, .slice none 0 0] 27))).alloc (by simp) (.cells #[.int .i64 0, .slice none 0 0] 27)
  have Z1 := Z1.next (b1.mono (by simp))
  have H1 := (h.keep b0 hrb).keep b1 (by omega)
  have g0 : w.grownBy ((w.alloc (.cells #[.int .i64 0, .slice none 0 0] 27)).alloc (.cells #[.int .i64 0, .slice none 0 0] 27)) (some rb) := grown_trans (World.grownBy_alloc _ _ _) (World.grownBy_alloc _ _ _)
  have hs : ((w.alloc (.cells #[.int .i64 0, .slice none 0 0] 27)).alloc (.cells #[.int .i64 0, .slice none 0 0] 27)).heap.size = w.heap.size + 2 := by simp
  clear h b0 b1
  obtain ⟨W, hW⟩ : ∃ W, W = (w.alloc (.cells #[.int .i64 0, .slice none 0 0] 27)).alloc (.cells #[.int .i64 0, .slice none 0 0] 27) := ⟨_, rfl⟩
  go_enter Try.func67, Try.ntmps67
  go_wp2_with fail
  rw [← hW] at Z1 Z2 H1 g0 hs ⊢
  clear hW
  refine (l20Fam_any _ _ _ _ _ (14 : Int) _ H1 (by omega) (by omega) (by omega)).mono ?_
  rintro e1 w1 ⟨t, A, c, xs, q, rfl, own, t0, t1, hx, H2, hq, hg⟩
  have hsz := hg.size
  have b5 := (Below.refl w1.heap.size w1).alloc (Nat.le_refl _) (.cells #[.int .i64 t, .slice A xs.length c] 27)
  have F0 : FamsSt w (w1.alloc (.cells #[.int .i64 t, .slice A xs.length c] 27)) rb w1.heap.size B l cap q t A xs.length c xs :=
    ⟨H2.keep b5 H2.lt, (Z1.kept hg (by omega)).next b5, (Z2.kept hg (by omega)).next b5, by rw [World.cell?_alloc_at _ _ _ _ rfl]; rfl, by rw [World.cell?_alloc_at _ _ _ _ rfl]; rfl, (own.below b5 own.lt).more (by omega), grown_below (grown_trans g0 hg) b5 (by omega), hrb, by omega, by simp⟩
  clear H1 H2 own b5 Z1 Z2 g0 hg
  obtain ⟨U, hU⟩ : ∃ U, U = w1.alloc (.cells #[.int .i64 t, .slice A xs.length c] 27) := ⟨_, rfl⟩
  go_wp2_with fail
  rw [← hU] at F0 ⊢
  clear hU
  generalize w1.heap.size = b at *
  refine (odd_any _ _ _ _ _ _ _ F0.rd (by omega) (by omega) (by omega)).mono ?_
  rintro e3 w3 ⟨o, m3, rfl, rfl⟩
  have F1 := F0.read m3
  generalize readOn U rb q m3 = U1 at *
  clear F0
  have c0 := F1.c0
  have c1 := F1.c1
  have cd0 := F1.drew.c0
  have cd1 := F1.drew.c1
  have bl := F1.bl
  have bh := F1.bh
  have hbw : w.heap.size ≠ b := by omega
  have hbw1 : w.heap.size + 1 ≠ b := by omega
  by_cases hc : o = false ∧ 0 ≤ t ∧ t ≤ 6
  · obtain ⟨rfl, ht0, ht6⟩ := hc
    obtain ⟨T, rfl⟩ : ∃ T : Nat, t = T := ⟨t.toNat, by omega⟩
    go_wp2_with fail
    go_region_held3 (fun w' => w'.cell? ⟨b, 0, none⟩ = some (.int .i64 (T : Nat)) ∧ w'.cell? ⟨b, 1, none⟩ = some (.slice A xs.length c)) (first | go_keep) (first
      | (go_simp; go_at_call 117; (with_reducible refine (l20Family_any _ _ _ _ _ T _ F1.drew.rd (by omega) (by omega)).mono ?_); rintro e8 w8 ⟨s, A2, d, ys, q2, rfl, own2, s0, s1, hy, H2, hq2, hg2⟩; have F2 := F1.drew.grown hg2 H2; have d0 := F2.c0; have d1 := F2.c1; have y0 := F2.z1.c0; have y1 := F2.z1.c1; have y2 := F2.z1.f0; have y3 := F2.z1.f1; have y4 := F2.z2.c0; have y5 := F2.z2.c1; have y6 := F2.z2.f0; have y7 := F2.z2.f1))
    all_goals
      go_wp2_with fail
      refine bodyPost_ret (v := .tuple #[.agg #[.int .i64 (T : Nat), .slice A xs.length c], .agg #[.int .i64 s, .slice A2 ys.length d]]) (by simp [results, Try.results67, go_sem, *]) rfl ?_
      exact F2.two own2 (by rw [World.size_drew]; omega) ⟨by omega, by omega⟩ (by omega) ⟨by omega, by omega⟩ (by omega) (by omega)
  · have h3 : o = true ∨ (o = false ∧ t < 0) ∨ (o = false ∧ 6 < t ∧ ¬ t < 0) := by
      cases o with
      | true => exact .inl rfl
      | false =>
        right
        by_cases h : t < 0
        · exact .inl ⟨rfl, h⟩
        · refine .inr ⟨rfl, ?_, h⟩
          by_cases h6 : 6 < t
          · exact h6
          · exact absurd ⟨rfl, by omega, by omega⟩ hc
    clear hc
    rcases h3 with rfl | ⟨rfl, h⟩ | ⟨rfl, h, h'⟩
    · go_wp2_with fail
      go_region_held3 (fun w' => w'.cell? ⟨b, 0, none⟩ = some (.int .i64 t) ∧ w'.cell? ⟨b, 1, none⟩ = some (.slice A xs.length c)) (first | go_keep) (first
        | (go_simp; go_at_call 116; (with_reducible refine (l20Fam_any _ _ _ _ _ (3 : Int) _ F1.drew.rd (by omega) (by omega) (by omega)).mono ?_); rintro e8 w8 ⟨s, A2, d, ys, q2, rfl, own2, s0, s1, hy, H2, hq2, hg2⟩; have F2 := F1.drew.grown hg2 H2; have d0 := F2.c0; have d1 := F2.c1; have y0 := F2.z1.c0; have y1 := F2.z1.c1; have y2 := F2.z1.f0; have y3 := F2.z1.f1; have y4 := F2.z2.c0; have y5 := F2.z2.c1; have y6 := F2.z2.f0; have y7 := F2.z2.f1))
      all_goals
        go_wp2_with fail
        refine bodyPost_ret (v := .tuple #[.agg #[.int .i64 t, .slice A xs.length c], .agg #[.int .i64 s, .slice A2 ys.length d]]) (by simp [results, Try.results67, go_sem, *]) rfl ?_
        exact F2.two own2 (by rw [World.size_drew]; omega) ⟨t0, t1⟩ hx ⟨s0, s1⟩ hy (by omega)
    · go_wp2_with fail
      go_region_held3 (fun w' => w'.cell? ⟨b, 0, none⟩ = some (.int .i64 t) ∧ w'.cell? ⟨b, 1, none⟩ = some (.slice A xs.length c)) (first | go_keep) (first
        | (go_simp; go_at_call 116; (with_reducible refine (l20Fam_any _ _ _ _ _ (3 : Int) _ F1.drew.rd (by omega) (by omega) (by omega)).mono ?_); rintro e8 w8 ⟨s, A2, d, ys, q2, rfl, own2, s0, s1, hy, H2, hq2, hg2⟩; have F2 := F1.drew.grown hg2 H2; have d0 := F2.c0; have d1 := F2.c1; have y0 := F2.z1.c0; have y1 := F2.z1.c1; have y2 := F2.z1.f0; have y3 := F2.z1.f1; have y4 := F2.z2.c0; have y5 := F2.z2.c1; have y6 := F2.z2.f0; have y7 := F2.z2.f1))
      all_goals
        go_wp2_with fail
        refine bodyPost_ret (v := .tuple #[.agg #[.int .i64 t, .slice A xs.length c], .agg #[.int .i64 s, .slice A2 ys.length d]]) (by simp [results, Try.results67, go_sem, *]) rfl ?_
        exact F2.two own2 (by rw [World.size_drew]; omega) ⟨t0, t1⟩ hx ⟨s0, s1⟩ hy (by omega)
    · go_wp2_with fail
      · exfalso; omega
      go_region_held3 (fun w' => w'.cell? ⟨b, 0, none⟩ = some (.int .i64 t) ∧ w'.cell? ⟨b, 1, none⟩ = some (.slice A xs.length c)) (first | go_keep) (first
        | (go_simp; go_at_call 116; (with_reducible refine (l20Fam_any _ _ _ _ _ (3 : Int) _ F1.drew.rd (by omega) (by omega) (by omega)).mono ?_); rintro e8 w8 ⟨s, A2, d, ys, q2, rfl, own2, s0, s1, hy, H2, hq2, hg2⟩; have F2 := F1.drew.grown hg2 H2; have d0 := F2.c0; have d1 := F2.c1; have y0 := F2.z1.c0; have y1 := F2.z1.c1; have y2 := F2.z1.f0; have y3 := F2.z1.f1; have y4 := F2.z2.c0; have y5 := F2.z2.c1; have y6 := F2.z2.f0; have y7 := F2.z2.f1))
      all_goals
        go_wp2_with fail
        refine bodyPost_ret (v := .tuple #[.agg #[.int .i64 t, .slice A xs.length c], .agg #[.int .i64 s, .slice A2 ys.length d]]) (by simp [results, Try.results67, go_sem, *]) rfl ?_
        exact F2.two own2 (by rw [World.size_drew]; omega) ⟨t0, t1⟩ hx ⟨s0, s1⟩ hy (by omega)

def GotTwo (w : World) (e : Ending) (w' : World) : Prop :=
  ∃ (t : Int) (A : Option Addr) (c : Nat) (xs : List Int) (s : Int) (A2 : Option Addr) (d : Nat) (ys : List Int), e = .returned (.tuple #[.agg #[.int .i64 t, .slice A xs.length c], .agg #[.int .i64 s, .slice A2 ys.length d]]) ∧ OwnI w' w.heap.size (.slice A xs.length c) xs ∧ OwnI w' w.heap.size (.slice A2 ys.length d) ys ∧ (-1 ≤ t ∧ t ≤ 7) ∧ xs.length ≤ 65 ∧ (-1 ≤ s ∧ s ≤ 7) ∧ ys.length ≤ 65 ∧ Below w.heap.size w w'

theorem drawBothFamilies_any (A : Option Addr) (l cap : Nat) (w : World) (hb : BytesIn w w.heap.size A l) (hl : l ≤ 1048576) (hc : l ≤ cap) :
    Calls Try.prog 23 #[.slice A l cap] w (GotTwo w) := by
  have Z1 := BoxAt.start w 27
  have Z2 := BoxAt.start (w.alloc (.cells #[.int .i64 0, .slice none 0 0] 27)) 27
  rw [World.size_alloc] at Z2
  have b0 := (Below.refl w.heap.size w).alloc (Nat.le_refl _) (.cells #[.int .i64 0, .slice none 0 0] 27)
  have b1 := (Below.refl (w.heap.size + 1) (w.alloc (.cells #[.int .i64 0, .slice none 0 0] 27))).alloc (by simp) (.cells #[.int .i64 0, .slice none 0 0] 27)
  have Z1 := Z1.next (b1.mono (by simp))
  have bb := b0.trans (b1.mono (by simp))
  have hb' := (hb.keep fun p hp => bb.cell hp).more (B' := ((w.alloc (.cells #[.int .i64 0, .slice none 0 0] 27)).alloc (.cells #[.int .i64 0, .slice none 0 0] 27)).heap.size) (by simp; omega)
  have hs : ((w.alloc (.cells #[.int .i64 0, .slice none 0 0] 27)).alloc (.cells #[.int .i64 0, .slice none 0 0] 27)).heap.size = w.heap.size + 2 := by simp
  obtain ⟨W, hW⟩ : ∃ W, W = (w.alloc (.cells #[.int .i64 0, .slice none 0 0] 27)).alloc (.cells #[.int .i64 0, .slice none 0 0] 27) := ⟨_, rfl⟩
  clear b0 b1 hb
  go_enter Try.func23, Try.ntmps23
  go_wp2_with fail
  rw [← hW] at Z1 Z2 bb hb' hs ⊢
  clear hW
  refine (open_any _ _ _ _ hb' hl hc).mono ?_
  rintro e1 w1 ⟨rb, B, l1, c1, rfl, H1, hge, hb1⟩
  have Z1 := Z1.next hb1
  have Z2 := Z2.next hb1
  have bb := bb.trans (hb1.mono bb.size)
  have hs1 := hb1.size
  go_wp2_with fail
  refine (l20Fams_any _ _ _ _ _ _ H1 (by omega)).mono ?_
  rintro e2 w2 ⟨t, A1, d1, xs, s, A2, d2, ys, q, rfl, own1, own2, ht, hx, hs, hy, H2, -, hg⟩
  have Z1 := Z1.kept hg (by omega)
  have Z2 := Z2.kept hg (by omega)
  have bb := bb.trans (below_of_grown hg bb.size (by omega))
  obtain ⟨y0, y1, y2, y3, -⟩ := id Z1
  obtain ⟨y4, y5, y6, y7, -⟩ := id Z2
  have hge1 := own1.ge
  have hge2 := own2.ge
  go_wp2_with fail
  refine bodyPost_ret (v := .tuple #[.agg #[.int .i64 t, .slice A1 xs.length d1], .agg #[.int .i64 s, .slice A2 ys.length d2]]) (by simp [results, Try.results23, go_sem, *]) rfl ?_
  refine ⟨t, A1, d1, xs, s, A2, d2, ys, rfl, OwnI.far (OwnI.far (OwnI.far (OwnI.far (own1.more (by omega)) ?_ _) ?_ _) ?_ _) ?_ _, OwnI.far (OwnI.far (OwnI.far (OwnI.far (own2.more (by omega)) ?_ _) ?_ _) ?_ _) ?_ _, ht, hx, hs, hy, (((bb.setCell (by simp) _).setCell (by simp) _).setCell (by simp) _).setCell (by simp) _⟩
  all_goals first
    | (intro k hk; have := hge1 k hk; simp; omega)
    | (intro k hk; have := hge2 k hk; simp; omega)

theorem drawEitherFamily_any (A : Option Addr) (l cap : Nat) (w : World) (hb : BytesIn w w.heap.size A l) (hl : l ≤ 1048576) (hc : l ≤ cap) :
    Calls Try.prog 27 #[.slice A l cap] w (GotTwo w) := by
  have Z1 := BoxAt.start w 27
  have Z2 := BoxAt.start (w.alloc (.cells #[.int .i64 0, .slice none 0 0] 27)) 27
  rw [World.size_alloc] at Z2
  have b0 := (Below.refl w.heap.size w).alloc (Nat.le_refl _) (.cells #[.int .i64 0, .slice none 0 0] 27)
  have b1 := (Below.refl (w.heap.size + 1) (w.alloc (.cells #[.int .i64 0, .slice none 0 0] 27))).alloc (by simp) (.cells #[.int .i64 0, .slice none 0 0] 27)
  have Z1 := Z1.next (b1.mono (by simp))
  have bb := b0.trans (b1.mono (by simp))
  have hb' := (hb.keep fun p hp => bb.cell hp).more (B' := ((w.alloc (.cells #[.int .i64 0, .slice none 0 0] 27)).alloc (.cells #[.int .i64 0, .slice none 0 0] 27)).heap.size) (by simp; omega)
  have hs : ((w.alloc (.cells #[.int .i64 0, .slice none 0 0] 27)).alloc (.cells #[.int .i64 0, .slice none 0 0] 27)).heap.size = w.heap.size + 2 := by simp
  obtain ⟨W, hW⟩ : ∃ W, W = (w.alloc (.cells #[.int .i64 0, .slice none 0 0] 27)).alloc (.cells #[.int .i64 0, .slice none 0 0] 27) := ⟨_, rfl⟩
  clear b0 b1 hb
  go_enter Try.func27, Try.ntmps27
  go_wp2_with fail
  rw [← hW] at Z1 Z2 bb hb' hs ⊢
  clear hW
  refine (open_any _ _ _ _ hb' hl hc).mono ?_
  rintro e1 w1 ⟨rb, B, l1, c1, rfl, H1, hge, hb1⟩
  have Z1 := Z1.next hb1
  have Z2 := Z2.next hb1
  have bb := bb.trans (hb1.mono bb.size)
  have hs1 := hb1.size
  go_wp2_with fail
  refine (l20Fams_any _ _ _ _ _ _ H1 (by omega)).mono ?_
  rintro e2 w2 ⟨t, A1, d1, xs, s, A2, d2, ys, q, rfl, own1, own2, ht, hx, hs, hy, H2, -, hg⟩
  have Z1 := Z1.kept hg (by omega)
  have Z2 := Z2.kept hg (by omega)
  have bb := bb.trans (below_of_grown hg bb.size (by omega))
  obtain ⟨y0, y1, y2, y3, -⟩ := id Z1
  obtain ⟨y4, y5, y6, y7, -⟩ := id Z2
  have hge1 := own1.ge
  have hge2 := own2.ge
  go_wp2_with fail
  refine bodyPost_ret (v := .tuple #[.agg #[.int .i64 t, .slice A1 xs.length d1], .agg #[.int .i64 s, .slice A2 ys.length d2]]) (by simp [results, Try.results27, go_sem, *]) rfl ?_
  refine ⟨t, A1, d1, xs, s, A2, d2, ys, rfl, OwnI.far (OwnI.far (OwnI.far (OwnI.far (own1.more (by omega)) ?_ _) ?_ _) ?_ _) ?_ _, OwnI.far (OwnI.far (OwnI.far (OwnI.far (own2.more (by omega)) ?_ _) ?_ _) ?_ _) ?_ _, ht, hx, hs, hy, (((bb.setCell (by simp) _).setCell (by simp) _).setCell (by simp) _).setCell (by simp) _⟩
  all_goals first
    | (intro k hk; have := hge1 k hk; simp; omega)
    | (intro k hk; have := hge2 k hk; simp; omega)

theorem drawApartFamilies_any (A : Option Addr) (l cap : Nat) (w : World) (hb : BytesIn w w.heap.size A l) (hl : l ≤ 1048576) (hc : l ≤ cap) :
    Calls Try.prog 31 #[.slice A l cap] w (GotTwo w) := by
  have Z1 := BoxAt.start w 27
  have Z2 := BoxAt.start (w.alloc (.cells #[.int .i64 0, .slice none 0 0] 27)) 27
  rw [World.size_alloc] at Z2
  have b0 := (Below.refl w.heap.size w).alloc (Nat.le_refl _) (.cells #[.int .i64 0, .slice none 0 0] 27)
  have b1 := (Below.refl (w.heap.size + 1) (w.alloc (.cells #[.int .i64 0, .slice none 0 0] 27))).alloc (by simp) (.cells #[.int .i64 0, .slice none 0 0] 27)
  have Z1 := Z1.next (b1.mono (by simp))
  have bb := b0.trans (b1.mono (by simp))
  have hb' := (hb.keep fun p hp => bb.cell hp).more (B' := ((w.alloc (.cells #[.int .i64 0, .slice none 0 0] 27)).alloc (.cells #[.int .i64 0, .slice none 0 0] 27)).heap.size) (by simp; omega)
  have hs : ((w.alloc (.cells #[.int .i64 0, .slice none 0 0] 27)).alloc (.cells #[.int .i64 0, .slice none 0 0] 27)).heap.size = w.heap.size + 2 := by simp
  obtain ⟨W, hW⟩ : ∃ W, W = (w.alloc (.cells #[.int .i64 0, .slice none 0 0] 27)).alloc (.cells #[.int .i64 0, .slice none 0 0] 27) := ⟨_, rfl⟩
  clear b0 b1 hb
  go_enter Try.func31, Try.ntmps31
  go_wp2_with fail
  rw [← hW] at Z1 Z2 bb hb' hs ⊢
  clear hW
  refine (open_any _ _ _ _ hb' hl hc).mono ?_
  rintro e1 w1 ⟨rb, B, l1, c1, rfl, H1, hge, hb1⟩
  have Z1 := Z1.next hb1
  have Z2 := Z2.next hb1
  have bb := bb.trans (hb1.mono bb.size)
  have hs1 := hb1.size
  go_wp2_with fail
  refine (l20Fams_any _ _ _ _ _ _ H1 (by omega)).mono ?_
  rintro e2 w2 ⟨t, A1, d1, xs, s, A2, d2, ys, q, rfl, own1, own2, ht, hx, hs, hy, H2, -, hg⟩
  have Z1 := Z1.kept hg (by omega)
  have Z2 := Z2.kept hg (by omega)
  have bb := bb.trans (below_of_grown hg bb.size (by omega))
  obtain ⟨y0, y1, y2, y3, -⟩ := id Z1
  obtain ⟨y4, y5, y6, y7, -⟩ := id Z2
  have hge1 := own1.ge
  have hge2 := own2.ge
  go_wp2_with fail
  refine bodyPost_ret (v := .tuple #[.agg #[.int .i64 t, .slice A1 xs.length d1], .agg #[.int .i64 s, .slice A2 ys.length d2]]) (by simp [results, Try.results31, go_sem, *]) rfl ?_
  refine ⟨t, A1, d1, xs, s, A2, d2, ys, rfl, OwnI.far (OwnI.far (OwnI.far (OwnI.far (own1.more (by omega)) ?_ _) ?_ _) ?_ _) ?_ _, OwnI.far (OwnI.far (OwnI.far (OwnI.far (own2.more (by omega)) ?_ _) ?_ _) ?_ _) ?_ _, ht, hx, hs, hy, (((bb.setCell (by simp) _).setCell (by simp) _).setCell (by simp) _).setCell (by simp) _⟩
  all_goals first
    | (intro k hk; have := hge1 k hk; simp; omega)
    | (intro k hk; have := hge2 k hk; simp; omega)
end Go.Proofs.Ytmdmmebekicpkaa
