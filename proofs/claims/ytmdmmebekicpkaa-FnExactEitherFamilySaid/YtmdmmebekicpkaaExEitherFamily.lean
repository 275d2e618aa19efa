/- The exact law of EitherFamily holds: the program answers as the reference does, leaves its arguments alone, and shares no memory with them or with another call's answer. -/
import Derived.Test.YtmdmmebekicpkaaFamO
import Derived.Test.YtmdmmebekicpkaaShell
import Derived.Test.YtmdmmebekicpkaaSpec8d
import Derived.Test.YtmdmmebekicpkaaImpl8h
import Derived.Test.YtmdmmebekicpkaaVal8
import Derived.Deep.RegionHeld3
import Derived.Deep.DeepCutAuto
namespace Go.Proofs.Ytmdmmebekicpkaa
open Go.RowKit
set_option maxRecDepth 100000

/-- What stood in w0 still stands. -/
def KeptBEitherFamily (w0 u : World) : Prop := Below w0.heap.size w0 u
theorem KeptBEitherFamily.start (u : World) : KeptBEitherFamily u u := Below.refl _ _
theorem KeptBEitherFamily.size {w0 u : World} (h : KeptBEitherFamily w0 u) : w0.heap.size ≤ u.heap.size := Below.size h
theorem KeptBEitherFamily.next {w0 u u' : World} (h : KeptBEitherFamily w0 u) (hb : Below u.heap.size u u') : KeptBEitherFamily w0 u' := Below.trans h (hb.mono h.size)
theorem KeptBEitherFamily.drew {w0 u : World} (h : KeptBEitherFamily w0 u) : KeptBEitherFamily w0 u.drew := h.next ((Below.refl _ _).drew)
theorem KeptBEitherFamily.alloc {w0 u : World} (h : KeptBEitherFamily w0 u) (o : Obj) : KeptBEitherFamily w0 (u.alloc o) := h.next ((Below.refl _ _).alloc (Nat.le_refl _) o)
theorem KeptBEitherFamily.put {w0 u : World} {b : Nat} (h : KeptBEitherFamily w0 u) (hb : w0.heap.size ≤ b) (v v' : Value) : KeptBEitherFamily w0 ((u.setCell ⟨b, 0, none⟩ v).setCell ⟨b, 1, none⟩ v') :=
  Below.setCell (Below.setCell h (p := ⟨b, 0, none⟩) hb v) (p := ⟨b, 1, none⟩) hb v'

set_option maxHeartbeats 8000000 in
theorem exEitherFamily_walk (t : Int) (A : Option Addr) (c : Nat) (xs : List Int) (s : Int) (B : Option Addr) (d : Nat) (ys : List Int) (w : World) (hF : IntsIn w w.heap.size A xs) (hlF : xs.length ≤ maxLen) (_wfF : (Lit.int .i64 t).wf = true) (hG : IntsIn w w.heap.size B ys) (hlG : ys.length ≤ maxLen) (_wfG : (Lit.int .i64 s).wf = true) :
    Calls Try.prog 8 #[.agg #[.int .i64 t, .slice A xs.length c], .agg #[.int .i64 s, .slice B ys.length d]] w fun e w' => e = .returned (.bool true) ∧ Below w.heap.size w w' := by
  unfold maxLen at hlF
  obtain ⟨m, hmF⟩ : ∃ m, xs.length = m := ⟨_, rfl⟩
  unfold maxLen at hlG
  obtain ⟨k, hmG⟩ : ∃ k, ys.length = k := ⟨_, rfl⟩
  rw [hmF, hmG]
  rw [hmF] at hlF
  rw [hmG] at hlG
  by_cases hbig : (1048576 : Int) < m
  · clear hF hmF hG hmG hlG
    go_enter Try.func8, Try.ntmps8
    go_wp2_with fail
    refine (szFamily_big _ _ _ _ _ hlF (by omega)).mono ?_
    rintro e1 w1 ⟨rfl, hb1⟩
    go_wp2
    go_returns
    exact ⟨rfl, Below.trans (by go_grown) (hb1.mono (by simp; omega))⟩
  by_cases hbig2 : (1048576 : Int) - m < k
  · have A0 := FamArg.start2 (t := s) (m := k) (c := d) 41 (.cells #[.int .i64 t, .slice A m c] 41) hG
    clear hF hmF hG hmG
    go_enter Try.func8, Try.ntmps8
    go_wp2_with fail
    refine (szFamily_small _ _ _ _ _ (by omega)).mono ?_
    rintro e1 w1 ⟨rfl, hb1⟩
    have A1 := A0.next hb1
    have a0 := A1.c0
    have a1 := A1.c1
    clear A0
    go_wp2_with fail
    refine (szFamily_any _ _ _ _ _ _ hlG (by omega) (by omega)).mono ?_
    rw [if_pos (by omega)]
    rintro e2 w2 ⟨rfl, hb2⟩
    go_wp2
    go_returns
    exact ⟨rfl, (A1.next hb2).below⟩
  have lF : m ≤ 1048576 := by omega
  have lG : k ≤ 1048576 := by omega
  obtain ⟨z, hz⟩ : ∃ z, twoT t xs s ys = z := ⟨_, rfl⟩
  obtain ⟨R, hR⟩ : ∃ R, orL t xs s ys = R := ⟨_, rfl⟩
  obtain ⟨b, hb⟩ : ∃ b, twoOk t xs s ys = b := ⟨_, rfl⟩
  have lR0 : R.length ≤ 64 := by rw [← hR]; exact orL_len t xs s ys
  obtain ⟨r, hr⟩ : ∃ r, R.length = r := ⟨_, rfl⟩
  have lR : r ≤ 1048576 := by omega
  have HS : Hid (∀ A c B d u, IntsIn u u.heap.size A xs → IntsIn u u.heap.size B ys → Calls Try.prog 29 #[.agg #[.int .i64 t, .slice A m c], .agg #[.int .i64 s, .slice B k d]] u (GotM u z r R b)) := fun A c B d u h0 h1 => by
    have h := specEither_any t A c xs s B d ys u h0 h1 (by unfold maxLen; omega) (by unfold maxLen; omega)
    rw [hz, hR, hb, hmF, hmG] at h
    exact h.mono fun _ _ q => q.m hr
  have HI : Hid (∀ A c B d u, IntsIn u u.heap.size A xs → IntsIn u u.heap.size B ys → NilOk A m c → NilOk B k d → Calls Try.prog 28 #[.agg #[.int .i64 t, .slice A m c], .agg #[.int .i64 s, .slice B k d]] u (GotM u z r R b)) := fun A c B d u h0 h1 n0 n1 => by
    have h := either_any t A c xs s B d ys u h0 h1 (by omega) (by omega) (by rw [hmF]; exact n0) (by rw [hmG]; exact n1)
    rw [hz, hR, hb, hmF, hmG] at h
    exact h.mono fun _ _ q => q.m hr
  have HER : Hid (∀ A B c d u, IntsIn u u.heap.size A R → IntsIn u u.heap.size B R → Calls Try.prog 36 #[.agg #[.int .i64 z, .slice A r c], .agg #[.int .i64 z, .slice B r d]] u fun e w' => e = .returned (.bool true) ∧ Below u.heap.size u w') := fun A B c d u h1 h2 => eqFamily_self z A B c d r R u h1 h2 hr lR
  have HTF : Hid (∀ u, IntsIn u u.heap.size A xs → Calls Try.prog 35 #[.agg #[.int .i64 t, .slice A m c]] u (MadeM u t m xs)) := fun u h => toFam_m t A c m xs u h hmF lF
  have HEF : Hid (∀ A B c d u, IntsIn u u.heap.size A xs → IntsIn u u.heap.size B xs → Calls Try.prog 36 #[.agg #[.int .i64 t, .slice A m c], .agg #[.int .i64 t, .slice B m d]] u fun e w' => e = .returned (.bool true) ∧ Below u.heap.size u w') := fun A B c d u h1 h2 => eqFamily_self t A B c d m xs u h1 h2 hmF lF
  have HTG : Hid (∀ u, IntsIn u u.heap.size B ys → Calls Try.prog 35 #[.agg #[.int .i64 s, .slice B k d]] u (MadeM u s k ys)) := fun u h => toFam_m s B d k ys u h hmG lG
  have HEG : Hid (∀ A B c d u, IntsIn u u.heap.size A ys → IntsIn u u.heap.size B ys → Calls Try.prog 36 #[.agg #[.int .i64 s, .slice A k c], .agg #[.int .i64 s, .slice B k d]] u fun e w' => e = .returned (.bool true) ∧ Below u.heap.size u w') := fun A B c d u h1 h2 => eqFamily_self s A B c d k ys u h1 h2 hmG lG
  have F_0 := FamArg.start (t := t) (m := m) (c := c) 41 hF
  have F_0 := F_0.alloc (.cells #[.int .i64 s, .slice B k d] 41)
  have G_0 := FamArg.start2 (t := s) (m := k) (c := d) 41 (.cells #[.int .i64 t, .slice A m c] 41) hG
  clear hz hF hmF hbig hR hb hr lR0 hG hmG
  go_enter Try.func8, Try.ntmps8
  have Fa := F_0.c0
  have Fb := F_0.c1
  have Fl := F_0.lt
  have Ga := G_0.c0
  have Gb := G_0.c1
  have Gl := G_0.lt
  go_wp2_with fail
  refine (szFamily_small _ _ _ _ _ lF).mono ?_
  rintro e1 w1 ⟨rfl, hb1⟩
  clear Fa Fb Fl Ga Gb Gl
  have F_1 := F_0.next hb1
  have G_1 := G_0.next hb1
  clear F_0 G_0
  have Fa := F_1.c0
  have Fb := F_1.c1
  have Fl := F_1.lt
  have Ga := G_1.c0
  have Gb := G_1.c1
  have Gl := G_1.lt
  go_wp2_with fail
  refine (szFamily_any _ _ _ _ _ _ hlG (by omega) (by omega)).mono ?_
  rw [if_neg (by omega)]
  rintro e2 w2 ⟨rfl, hb2⟩
  clear Fa Fb Fl Ga Gb Gl
  have F_2 := F_1.next hb2
  have G_2 := G_1.next hb2
  clear F_1 G_1
  have Fa := F_2.c0
  have Fb := F_2.c1
  have Fl := F_2.lt
  have Ga := G_2.c0
  have Gb := G_2.c1
  have Gl := G_2.lt
  go_upto_region 8 with fail
  go_cut [6, 7] (fun p q wx => ∃ (lo hi bx : Nat) (A1 : Option Addr) (k1 : Nat), p = .pointer (some ⟨bx, 0, none⟩) ∧ q = .bool b ∧ FamObj wx lo hi bx z A1 r k1 R ∧ (w.heap.size + 1 ≤ lo ∧ w.heap.size + 1 + 1 ≤ lo) ∧ FamArg w wx (w.heap.size) t A m c xs ∧ FamArg w wx (w.heap.size + 1) s B k d ys)
  case first =>
    have F_d := F_2.drew
    have G_d := G_2.drew
    have F_D := (F_2.alloc (.cells #[.int .i64 0, .slice none 0 0] 27)).drew
    have G_D := (G_2.alloc (.cells #[.int .i64 0, .slice none 0 0] 27)).drew
    have Z_D := (BoxAt.start w2 27).drew
    have l_F := F_2.lt
    have l_G := G_2.lt
    have n0 : w.heap.size ≠ w2.heap.size := by omega
    have n1 : w.heap.size + 1 ≠ w2.heap.size := by omega
    go_wp2_with fail
    go_region_held3 (fun w' => w'.cell? ⟨w.heap.size, 0, none⟩ = some (.int .i64 t) ∧ w'.cell? ⟨w.heap.size, 1, none⟩ = some (.slice A m c) ∧ w'.cell? ⟨w.heap.size + 1, 0, none⟩ = some (.int .i64 s) ∧ w'.cell? ⟨w.heap.size + 1, 1, none⟩ = some (.slice B k d)) (first | go_keep | exact ⟨(F_c.put (by omega) _ _).c0, (F_c.put (by omega) _ _).c1, (G_c.put (by omega) _ _).c0, (G_c.put (by omega) _ _).c1⟩) (first | (go_simp; go_at_call 29; (with_reducible refine (HS.out _ _ _ _ _ pb.ints ownb.ints).mono ?_); rintro ec wc ⟨Ac, kc, rfl, ownc, hbc⟩; have F_c := F_b.next hbc; have G_c := G_b.next hbc; have x0 := F_c.c0; have x1 := F_c.c1; have x2 := G_c.c0; have x3 := G_c.c1; have hwc := F_c.lt; have gwc := G_c.lt; have n0wc : w.heap.size ≠ wc.heap.size := (by omega); have n1wc : w.heap.size + 1 ≠ wc.heap.size := (by omega); (try have Z_c := Z_b.next hbc); (try have b0 := Z_c.c0); (try have b1 := Z_c.c1); (try have b2 := Z_c.f0); (try have b3 := Z_c.f1)) | (go_simp; go_at_call 29; (with_reducible refine (HS.out _ _ _ _ _ (pb.below ((Below.refl wb.heap.size wb).alloc (Nat.le_refl _) (.cells #[.int .i64 0, .slice none 0 0] 27)) pb.lt).ints (ownb.below ((Below.refl wb.heap.size wb).alloc (Nat.le_refl _) (.cells #[.int .i64 0, .slice none 0 0] 27)) ownb.lt).ints).mono ?_); rintro ec wc ⟨Ac, kc, rfl, ownc, hbc⟩; have F_c := (F_b.alloc _).next hbc; have G_c := (G_b.alloc _).next hbc; have x0 := F_c.c0; have x1 := F_c.c1; have x2 := G_c.c0; have x3 := G_c.c1; have hwc := F_c.lt; have gwc := G_c.lt; have n0wc : w.heap.size ≠ wc.heap.size := (by omega); have n1wc : w.heap.size + 1 ≠ wc.heap.size := (by omega); have Z_c := (BoxAt.start wb 27).next hbc; (try have b0 := Z_c.c0); (try have b1 := Z_c.c1); (try have b2 := Z_c.f0); (try have b3 := Z_c.f1)) | (go_simp; go_at_call 35; (with_reducible refine (HTG.out _ G_a.ints).mono ?_); rintro eb wb ⟨Ab, kb, rfl, ownb, hbb⟩; have F_b := F_a.next hbb; have G_b := G_a.next hbb; have v0 := F_b.c0; have v1 := F_b.c1; have v2 := G_b.c0; have v3 := G_b.c1; have hwb := F_b.lt; have gwb := G_b.lt; have n0wb : w.heap.size ≠ wb.heap.size := (by omega); have n1wb : w.heap.size + 1 ≠ wb.heap.size := (by omega); have pb := owna.below hbb owna.lt; (try have Z_b := Z_a.next hbb)) | (go_simp; go_at_call 35; (with_reducible refine (HTG.out _ (G_a.alloc (.cells #[.int .i64 0, .slice none 0 0] 27)).ints).mono ?_); rintro eb wb ⟨Ab, kb, rfl, ownb, hbb⟩; have F_b := (F_a.alloc _).next hbb; have G_b := (G_a.alloc _).next hbb; have v0 := F_b.c0; have v1 := F_b.c1; have v2 := G_b.c0; have v3 := G_b.c1; have hwb := F_b.lt; have gwb := G_b.lt; have n0wb : w.heap.size ≠ wb.heap.size := (by omega); have n1wb : w.heap.size + 1 ≠ wb.heap.size := (by omega); have pb := (owna.below ((Below.refl wa.heap.size wa).alloc (Nat.le_refl _) (.cells #[.int .i64 0, .slice none 0 0] 27)) owna.lt).below hbb (fun k hk => by have := owna.lt k hk; simp; omega); have Z_b := (BoxAt.start wa 27).next hbb) | (go_simp; go_at_call 35; (with_reducible refine (HTF.out _ F_d.ints).mono ?_); rintro ea wa ⟨Aa, ka, rfl, owna, hba⟩; have F_a := F_d.next hba; have G_a := G_d.next hba; have u0 := F_a.c0; have u1 := F_a.c1; have u2 := G_a.c0; have u3 := G_a.c1; have hwa := F_a.lt; have gwa := G_a.lt; have n0wa : w.heap.size ≠ wa.heap.size := (by omega); have n1wa : w.heap.size + 1 ≠ wa.heap.size := (by omega)) | (go_simp; go_at_call 35; (with_reducible refine (HTF.out _ F_D.ints).mono ?_); rintro ea wa ⟨Aa, ka, rfl, owna, hba⟩; have F_a := F_D.next hba; have G_a := G_D.next hba; have u0 := F_a.c0; have u1 := F_a.c1; have u2 := G_a.c0; have u3 := G_a.c1; have hwa := F_a.lt; have gwa := G_a.lt; have n0wa : w.heap.size ≠ wa.heap.size := (by omega); have n1wa : w.heap.size + 1 ≠ wa.heap.size := (by omega); have Z_a := Z_D.next hba))
    all_goals
      have l2_F := F_c.lt
      have l2_G := G_c.lt
      have sa := hba.size
      have sb := hbb.size
      have sc := hbc.size
      simp only [World.size_alloc, World.size_drew] at sa sb sc
      go_wp2_with fail
      go_meet
      first
        | (have zz : BoxAt wc w2.heap.size := by with_reducible exact Z_c
           refine ⟨w2.heap.size, wc.heap.size, w2.heap.size, Ac, kc, rfl, rfl, zz.put ownc (Nat.le_refl _) ?_, ⟨by omega, by omega⟩, F_c.put (by omega) _ _, G_c.put (by omega) _ _⟩
           first | omega | (simp; done) | (simp; omega))
        | (have zz : BoxAt wc wa.heap.size := by with_reducible exact Z_c
           refine ⟨wa.heap.size, wc.heap.size, wa.heap.size, Ac, kc, rfl, rfl, zz.put ownc (Nat.le_refl _) ?_, ⟨by omega, by omega⟩, F_c.put (by omega) _ _, G_c.put (by omega) _ _⟩
           first | omega | (simp; done) | (simp; omega))
        | (have zz : BoxAt wc wb.heap.size := by with_reducible exact Z_c
           refine ⟨wb.heap.size, wc.heap.size, wb.heap.size, Ac, kc, rfl, rfl, zz.put ownc (Nat.le_refl _) ?_, ⟨by omega, by omega⟩, F_c.put (by omega) _ _, G_c.put (by omega) _ _⟩
           first | omega | (simp; done) | (simp; omega))
        | exact ⟨wb.heap.size, wc.heap.size + 1, wc.heap.size, Ac, kc, rfl, rfl, FamObj.start (t := z) 27 sc ownc, ⟨by omega, by omega⟩, F_c.alloc _, G_c.alloc _⟩
  case rest =>
    clear F_2 G_2
    clear Fa Fb Fl Ga Gb Gl
    obtain ⟨lo_O, hi_O, bx_O, A6, k6, rfl, rfl, O_6, ⟨d_F_O, d_G_O⟩, F_6, G_6⟩ := hcut
    have d_F_X := F_6.lt
    have d_G_X := G_6.lt
    have d_O_X := O_6.hh
    have Fa := F_6.c0
    have Fb := F_6.c1
    have Fl := F_6.lt
    have Ga := G_6.c0
    have Gb := G_6.c1
    have Gl := G_6.lt
    have Oa := O_6.c0
    have Ob := O_6.c1
    have Ol := O_6.lt
    go_wp2_with fail
    refine (HTF.out _ F_6.ints).mono ?_
    rintro e7 w7 ⟨A7, k7, rfl, own7, hb7⟩
    clear Fa Fb Fl Ga Gb Gl Oa Ob Ol
    have F_7 := F_6.next hb7
    have G_7 := G_6.next hb7
    have O_7 := O_6.next hb7
    clear F_6 G_6 O_6
    have q_X := hb7.size
    have Fa := F_7.c0
    have Fb := F_7.c1
    have Fl := F_7.lt
    have Ga := G_7.c0
    have Gb := G_7.c1
    have Gl := G_7.lt
    have Oa := O_7.c0
    have Ob := O_7.c1
    have Ol := O_7.lt
    obtain ⟨w8, hW8⟩ : ∃ W, W = w7.alloc (.cells #[.int .i64 t, .slice A7 m k7] 27) := ⟨_, rfl⟩
    have X_8 := FamObj.start (t := t) 27 q_X own7
    have F_8 := F_7.alloc (.cells #[.int .i64 t, .slice A7 m k7] 27)
    have G_8 := G_7.alloc (.cells #[.int .i64 t, .slice A7 m k7] 27)
    have O_8 := O_7.alloc (.cells #[.int .i64 t, .slice A7 m k7] 27)
    go_wp2_with fail
    rw [← hW8] at F_8 G_8 O_8 X_8 ⊢
    clear hW8
    clear Fa Fb Fl Ga Gb Gl Oa Ob Ol F_7 G_7 O_7
    have d_F_Y := F_8.lt
    have d_G_Y := G_8.lt
    have d_O_Y := O_8.hh
    have d_X_Y := X_8.hh
    refine (HTG.out _ G_8.ints).mono ?_
    rintro e9 w9 ⟨A9, k9, rfl, own9, hb9⟩
    have F_9 := F_8.next hb9
    have G_9 := G_8.next hb9
    have O_9 := O_8.next hb9
    have X_9 := X_8.next hb9
    clear F_8 G_8 O_8 X_8
    have q_Y := hb9.size
    have Fa := F_9.c0
    have Fb := F_9.c1
    have Fl := F_9.lt
    have Ga := G_9.c0
    have Gb := G_9.c1
    have Gl := G_9.lt
    have Oa := O_9.c0
    have Ob := O_9.c1
    have Ol := O_9.lt
    have Xa := X_9.c0
    have Xb := X_9.c1
    have Xl := X_9.lt
    obtain ⟨w10, hW10⟩ : ∃ W, W = w9.alloc (.cells #[.int .i64 s, .slice A9 k k9] 27) := ⟨_, rfl⟩
    have Y_10 := FamObj.start (t := s) 27 q_Y own9
    have F_10 := F_9.alloc (.cells #[.int .i64 s, .slice A9 k k9] 27)
    have G_10 := G_9.alloc (.cells #[.int .i64 s, .slice A9 k k9] 27)
    have O_10 := O_9.alloc (.cells #[.int .i64 s, .slice A9 k k9] 27)
    have X_10 := X_9.alloc (.cells #[.int .i64 s, .slice A9 k k9] 27)
    go_wp2_with fail
    rw [← hW10] at F_10 G_10 O_10 X_10 Y_10 ⊢
    clear hW10
    clear Fa Fb Fl Ga Gb Gl Oa Ob Ol Xa Xb Xl F_9 G_9 O_9 X_9
    have d_F_Z := F_10.lt
    have d_G_Z := G_10.lt
    have d_O_Z := O_10.hh
    have d_X_Z := X_10.hh
    have d_Y_Z := Y_10.hh
    refine (HI.out _ _ _ _ _ X_10.ints Y_10.ints X_10.nil Y_10.nil).mono ?_
    rintro e11 w11 ⟨A11, k11, rfl, own11, hb11⟩
    have F_11 := F_10.next hb11
    have G_11 := G_10.next hb11
    have O_11 := O_10.next hb11
    have X_11 := X_10.next hb11
    have Y_11 := Y_10.next hb11
    clear F_10 G_10 O_10 X_10 Y_10
    have q_Z := hb11.size
    have Fa := F_11.c0
    have Fb := F_11.c1
    have Fl := F_11.lt
    have Ga := G_11.c0
    have Gb := G_11.c1
    have Gl := G_11.lt
    have Oa := O_11.c0
    have Ob := O_11.c1
    have Ol := O_11.lt
    have Xa := X_11.c0
    have Xb := X_11.c1
    have Xl := X_11.lt
    have Ya := Y_11.c0
    have Yb := Y_11.c1
    have Yl := Y_11.lt
    obtain ⟨w12, hW12⟩ : ∃ W, W = w11.alloc (.cells #[.int .i64 z, .slice A11 r k11] 27) := ⟨_, rfl⟩
    have Z_12 := FamObj.start (t := z) 27 q_Z own11
    have F_12 := F_11.alloc (.cells #[.int .i64 z, .slice A11 r k11] 27)
    have G_12 := G_11.alloc (.cells #[.int .i64 z, .slice A11 r k11] 27)
    have O_12 := O_11.alloc (.cells #[.int .i64 z, .slice A11 r k11] 27)
    have X_12 := X_11.alloc (.cells #[.int .i64 z, .slice A11 r k11] 27)
    have Y_12 := Y_11.alloc (.cells #[.int .i64 z, .slice A11 r k11] 27)
    go_wp2_with fail
    rw [← hW12] at F_12 G_12 O_12 X_12 Y_12 Z_12 ⊢
    clear hW12
    clear Fa Fb Fl Ga Gb Gl Oa Ob Ol Xa Xb Xl Ya Yb Yl F_11 G_11 O_11 X_11 Y_11
    refine (HER.out _ _ _ _ _ Z_12.ints O_12.ints).mono ?_
    rintro e13 w13 ⟨rfl, hb13⟩
    have F_13 := F_12.next hb13
    have G_13 := G_12.next hb13
    have O_13 := O_12.next hb13
    have X_13 := X_12.next hb13
    have Y_13 := Y_12.next hb13
    have Z_13 := Z_12.next hb13
    clear F_12 G_12 O_12 X_12 Y_12 Z_12
    have Fa := F_13.c0
    have Fb := F_13.c1
    have Fl := F_13.lt
    have Ga := G_13.c0
    have Gb := G_13.c1
    have Gl := G_13.lt
    have Oa := O_13.c0
    have Ob := O_13.c1
    have Ol := O_13.lt
    have Xa := X_13.c0
    have Xb := X_13.c1
    have Xl := X_13.lt
    have Ya := Y_13.c0
    have Yb := Y_13.c1
    have Yl := Y_13.lt
    have Za := Z_13.c0
    have Zb := Z_13.c1
    have Zl := Z_13.lt
    go_wp2_with fail
    have F_d := F_13.drew
    have G_d := G_13.drew
    have O_d := O_13.drew
    have X_d := X_13.drew
    have Y_d := Y_13.drew
    have Z_d := Z_13.drew
    go_region_held3 (fun w' => w'.cell? ⟨w.heap.size, 0, none⟩ = some (.int .i64 t) ∧ w'.cell? ⟨w.heap.size, 1, none⟩ = some (.slice A m c) ∧ w'.cell? ⟨w7.heap.size, 0, none⟩ = some (.int .i64 t) ∧ w'.cell? ⟨w7.heap.size, 1, none⟩ = some (.slice A7 m k7)) (first | go_keep) (first | (go_at_call 35; refine (HTF.out _ F_d.ints).mono ?_; rintro e14 w14 ⟨A14, k14, rfl, own14, hb14⟩; have F_14 := F_d.next hb14; have G_14 := G_d.next hb14; have O_14 := O_d.next hb14; have X_14 := X_d.next hb14; have Y_14 := Y_d.next hb14; have Z_14 := Z_d.next hb14; have y0 := F_14.c0; have y1 := F_14.c1; have y2 := X_14.c0; have y3 := X_14.c1) | (go_at_call 36; refine (HEF.out _ _ _ _ _ X_14.ints own14.ints).mono ?_; rintro e15 w15 ⟨rfl, hb15⟩; have F_15 := F_14.next hb15; have G_15 := G_14.next hb15; have O_15 := O_14.next hb15; have X_15 := X_14.next hb15; have Y_15 := Y_14.next hb15; have Z_15 := Z_14.next hb15; have z0 := F_15.c0; have z1 := F_15.c1; have z2 := X_15.c0; have z3 := X_15.c1))
    clear y0 y1 y2 y3 z0 z1 z2 z3 own14 hb14 hb15 F_13 G_13 O_13 X_13 Y_13 Z_13 F_d G_d O_d X_d Y_d Z_d F_14 G_14 O_14 X_14 Y_14 Z_14
    clear Fa Fb Fl Ga Gb Gl Oa Ob Ol Xa Xb Xl Ya Yb Yl Za Zb Zl
    have Fa := F_15.c0
    have Fb := F_15.c1
    have Fl := F_15.lt
    have Ga := G_15.c0
    have Gb := G_15.c1
    have Gl := G_15.lt
    have Oa := O_15.c0
    have Ob := O_15.c1
    have Ol := O_15.lt
    have Xa := X_15.c0
    have Xb := X_15.c1
    have Xl := X_15.lt
    have Ya := Y_15.c0
    have Yb := Y_15.c1
    have Yl := Y_15.lt
    have Za := Z_15.c0
    have Zb := Z_15.c1
    have Zl := Z_15.lt
    go_wp2_with fail
    have F_d := F_15.drew
    have G_d := G_15.drew
    have O_d := O_15.drew
    have X_d := X_15.drew
    have Y_d := Y_15.drew
    have Z_d := Z_15.drew
    go_region_held3 (fun w' => w'.cell? ⟨w.heap.size + 1, 0, none⟩ = some (.int .i64 s) ∧ w'.cell? ⟨w.heap.size + 1, 1, none⟩ = some (.slice B k d) ∧ w'.cell? ⟨w9.heap.size, 0, none⟩ = some (.int .i64 s) ∧ w'.cell? ⟨w9.heap.size, 1, none⟩ = some (.slice A9 k k9)) (first | go_keep) (first | (go_at_call 35; refine (HTG.out _ G_d.ints).mono ?_; rintro e16 w16 ⟨A16, k16, rfl, own16, hb16⟩; have F_16 := F_d.next hb16; have G_16 := G_d.next hb16; have O_16 := O_d.next hb16; have X_16 := X_d.next hb16; have Y_16 := Y_d.next hb16; have Z_16 := Z_d.next hb16; have y0 := G_16.c0; have y1 := G_16.c1; have y2 := Y_16.c0; have y3 := Y_16.c1) | (go_at_call 36; refine (HEG.out _ _ _ _ _ Y_16.ints own16.ints).mono ?_; rintro e17 w17 ⟨rfl, hb17⟩; have F_17 := F_16.next hb17; have G_17 := G_16.next hb17; have O_17 := O_16.next hb17; have X_17 := X_16.next hb17; have Y_17 := Y_16.next hb17; have Z_17 := Z_16.next hb17; have z0 := G_17.c0; have z1 := G_17.c1; have z2 := Y_17.c0; have z3 := Y_17.c1))
    clear y0 y1 y2 y3 z0 z1 z2 z3 own16 hb16 hb17 F_15 G_15 O_15 X_15 Y_15 Z_15 F_d G_d O_d X_d Y_d Z_d F_16 G_16 O_16 X_16 Y_16 Z_16
    clear Fa Fb Fl Ga Gb Gl Oa Ob Ol Xa Xb Xl Ya Yb Yl Za Zb Zl
    have Fa := F_17.c0
    have Fb := F_17.c1
    have Fl := F_17.lt
    have Ga := G_17.c0
    have Gb := G_17.c1
    have Gl := G_17.lt
    have Oa := O_17.c0
    have Ob := O_17.c1
    have Ol := O_17.lt
    have Xa := X_17.c0
    have Xb := X_17.c1
    have Xl := X_17.lt
    have Ya := Y_17.c0
    have Yb := Y_17.c1
    have Yl := Y_17.lt
    have Za := Z_17.c0
    have Zb := Z_17.c1
    have Zl := Z_17.lt
    go_wp2_with fail
    refine (markFamily_any _ _ _ _ _ _ _ _ X_17.own lF (by omega) (by omega)).mono ?_
    rintro e18 w18 ⟨rfl, own18, hg18⟩
    clear Fa Fb Fl Ga Gb Gl Oa Ob Ol Xa Xb Xl Ya Yb Yl Za Zb Zl
    have r18 := X_17.row
    have F_18 := F_17.grown hg18 (fun j hj => by have h1 := r18 j hj; omega)
    have G_18 := G_17.grown hg18 (fun j hj => by have h1 := r18 j hj; omega)
    have O_18 := O_17.grown hg18 (fun j hj => by have h1 := r18 j hj; omega)
    have Y_18 := Y_17.grown hg18 (fun j hj => by have h1 := r18 j hj; omega)
    have Z_18 := Z_17.grown hg18 (fun j hj => by have h1 := r18 j hj; omega)
    clear F_17 G_17 O_17 X_17 Y_17 Z_17 own18 hg18 r18
    have Fa := F_18.c0
    have Fb := F_18.c1
    have Fl := F_18.lt
    have Ga := G_18.c0
    have Gb := G_18.c1
    have Gl := G_18.lt
    have Oa := O_18.c0
    have Ob := O_18.c1
    have Ol := O_18.lt
    have Ya := Y_18.c0
    have Yb := Y_18.c1
    have Yl := Y_18.lt
    have Za := Z_18.c0
    have Zb := Z_18.c1
    have Zl := Z_18.lt
    go_wp2_with fail
    refine (markFamily_any _ _ _ _ _ _ _ _ Y_18.own lG (by omega) (by omega)).mono ?_
    rintro e19 w19 ⟨rfl, own19, hg19⟩
    clear Fa Fb Fl Ga Gb Gl Oa Ob Ol Ya Yb Yl Za Zb Zl
    have r19 := Y_18.row
    have F_19 := F_18.grown hg19 (fun j hj => by have h1 := r19 j hj; omega)
    have G_19 := G_18.grown hg19 (fun j hj => by have h1 := r19 j hj; omega)
    have O_19 := O_18.grown hg19 (fun j hj => by have h1 := r19 j hj; omega)
    have Z_19 := Z_18.grown hg19 (fun j hj => by have h1 := r19 j hj; omega)
    clear F_18 G_18 O_18 Y_18 Z_18 own19 hg19 r19
    have Fa := F_19.c0
    have Fb := F_19.c1
    have Fl := F_19.lt
    have Ga := G_19.c0
    have Gb := G_19.c1
    have Gl := G_19.lt
    have Oa := O_19.c0
    have Ob := O_19.c1
    have Ol := O_19.lt
    have Za := Z_19.c0
    have Zb := Z_19.c1
    have Zl := Z_19.lt
    go_wp2_with fail
    clear Fa Fb Fl Ga Gb Gl Oa Ob Ol Za Zb Zl
    refine (HER.out _ _ _ _ _ Z_19.ints O_19.ints).mono ?_
    rintro e20 w20 ⟨rfl, hb20⟩
    have F_20 := F_19.next hb20
    have G_20 := G_19.next hb20
    have O_20 := O_19.next hb20
    have Z_20 := Z_19.next hb20
    clear F_19 G_19 O_19 Z_19
    have Fa := F_20.c0
    have Fb := F_20.c1
    have Fl := F_20.lt
    have Ga := G_20.c0
    have Gb := G_20.c1
    have Gl := G_20.lt
    have Oa := O_20.c0
    have Ob := O_20.c1
    have Ol := O_20.lt
    have Za := Z_20.c0
    have Zb := Z_20.c1
    have Zl := Z_20.lt
    go_wp2_with fail
    refine (markFamily_any _ _ _ _ _ _ _ _ Z_20.own lR (by omega) (by omega)).mono ?_
    rintro e21 w21 ⟨rfl, own21, hg21⟩
    clear Fa Fb Fl Ga Gb Gl Oa Ob Ol Za Zb Zl
    have r21 := Z_20.row
    have F_21 := F_20.grown hg21 (fun j hj => by have h1 := r21 j hj; omega)
    have G_21 := G_20.grown hg21 (fun j hj => by have h1 := r21 j hj; omega)
    have O_21 := O_20.grown hg21 (fun j hj => by have h1 := r21 j hj; omega)
    have Z_21 := Z_20.marked hg21 own21
    clear F_20 G_20 O_20 Z_20 own21 hg21 r21
    have Fa := F_21.c0
    have Fb := F_21.c1
    have Fl := F_21.lt
    have Ga := G_21.c0
    have Gb := G_21.c1
    have Gl := G_21.lt
    have Oa := O_21.c0
    have Ob := O_21.c1
    have Ol := O_21.lt
    have Za := Z_21.c0
    have Zb := Z_21.c1
    have Zl := Z_21.lt
    go_wp2_with fail
    clear Fa Fb Fl Ga Gb Gl Oa Ob Ol Za Zb Zl
    refine (heldFamily_any _ _ _ _ _ _ Z_21.ints lR (by omega) (by omega)).mono ?_
    rintro e22 w22 ⟨rfl, hb22⟩
    have F_22 := F_21.next hb22
    have G_22 := G_21.next hb22
    have O_22 := O_21.next hb22
    have Z_22 := Z_21.next hb22
    clear F_21 G_21 O_21 Z_21
    clear d_F_X d_G_X d_O_X q_X d_F_Y d_G_Y d_O_Y d_X_Y q_Y d_F_Z d_G_Z d_O_Z d_X_Z d_Y_Z q_Z hb7 hb9 hb11 hb13 hb20 hb22 d_F_O d_G_O
    have Fa := F_22.c0
    have Fb := F_22.c1
    have Fl := F_22.lt
    have Ga := G_22.c0
    have Gb := G_22.c1
    have Gl := G_22.lt
    have Oa := O_22.c0
    have Ob := O_22.c1
    have Ol := O_22.lt
    have Za := Z_22.c0
    have Zb := Z_22.c1
    have Zl := Z_22.lt
    go_upto_region 31 with fail
    have B_22 := KeptBEitherFamily.start w22
    go_cut [15, 16] (fun p q wx => ∃ (lo hi bx : Nat) (A1 : Option Addr) (k1 : Nat), p = .pointer (some ⟨bx, 0, none⟩) ∧ q = .bool b ∧ FamObj wx lo hi bx z A1 r k1 R ∧ (w.heap.size + 1 ≤ lo ∧ w.heap.size + 1 + 1 ≤ lo ∧ w22.heap.size ≤ lo) ∧ FamArg w wx (w.heap.size) t A m c xs ∧ FamArg w wx (w.heap.size + 1) s B k d ys ∧ KeptBEitherFamily w22 wx)
    case first =>
      clear O_22 Z_22 Oa Ob Ol Za Zb Zl
      have F_d := F_22.drew
      have G_d := G_22.drew
      have B_d := B_22.drew
      have F_D := (F_22.alloc (.cells #[.int .i64 0, .slice none 0 0] 27)).drew
      have G_D := (G_22.alloc (.cells #[.int .i64 0, .slice none 0 0] 27)).drew
      have B_D := (B_22.alloc (.cells #[.int .i64 0, .slice none 0 0] 27)).drew
      have Z_D := (BoxAt.start w22 27).drew
      have l_F := F_22.lt
      have l_G := G_22.lt
      have l_B := B_22.size
      have n0 : w.heap.size ≠ w22.heap.size := by omega
      have n1 : w.heap.size + 1 ≠ w22.heap.size := by omega
      go_wp2_with fail
      go_region_held3 (fun w' => w'.cell? ⟨w.heap.size, 0, none⟩ = some (.int .i64 t) ∧ w'.cell? ⟨w.heap.size, 1, none⟩ = some (.slice A m c) ∧ w'.cell? ⟨w.heap.size + 1, 0, none⟩ = some (.int .i64 s) ∧ w'.cell? ⟨w.heap.size + 1, 1, none⟩ = some (.slice B k d)) (first | go_keep | exact ⟨(F_c.put (by omega) _ _).c0, (F_c.put (by omega) _ _).c1, (G_c.put (by omega) _ _).c0, (G_c.put (by omega) _ _).c1⟩) (first | (go_simp; go_at_call 28; (with_reducible refine (HI.out _ _ _ _ _ pb.ints ownb.ints (own_nil pb) (own_nil ownb)).mono ?_); rintro ec wc ⟨Ac, kc, rfl, ownc, hbc⟩; have F_c := F_b.next hbc; have G_c := G_b.next hbc; have B_c := B_b.next hbc; have x0 := F_c.c0; have x1 := F_c.c1; have x2 := G_c.c0; have x3 := G_c.c1; have hwc := F_c.lt; have gwc := G_c.lt; have n0wc : w.heap.size ≠ wc.heap.size := (by omega); have n1wc : w.heap.size + 1 ≠ wc.heap.size := (by omega); (try have Z_c := Z_b.next hbc); (try have b0 := Z_c.c0); (try have b1 := Z_c.c1); (try have b2 := Z_c.f0); (try have b3 := Z_c.f1)) | (go_simp; go_at_call 28; (with_reducible refine (HI.out _ _ _ _ _ (pb.below ((Below.refl wb.heap.size wb).alloc (Nat.le_refl _) (.cells #[.int .i64 0, .slice none 0 0] 27)) pb.lt).ints (ownb.below ((Below.refl wb.heap.size wb).alloc (Nat.le_refl _) (.cells #[.int .i64 0, .slice none 0 0] 27)) ownb.lt).ints (own_nil pb) (own_nil ownb)).mono ?_); rintro ec wc ⟨Ac, kc, rfl, ownc, hbc⟩; have F_c := (F_b.alloc _).next hbc; have G_c := (G_b.alloc _).next hbc; have B_c := (B_b.alloc _).next hbc; have x0 := F_c.c0; have x1 := F_c.c1; have x2 := G_c.c0; have x3 := G_c.c1; have hwc := F_c.lt; have gwc := G_c.lt; have n0wc : w.heap.size ≠ wc.heap.size := (by omega); have n1wc : w.heap.size + 1 ≠ wc.heap.size := (by omega); have Z_c := (BoxAt.start wb 27).next hbc; (try have b0 := Z_c.c0); (try have b1 := Z_c.c1); (try have b2 := Z_c.f0); (try have b3 := Z_c.f1)) | (go_simp; go_at_call 35; (with_reducible refine (HTG.out _ G_a.ints).mono ?_); rintro eb wb ⟨Ab, kb, rfl, ownb, hbb⟩; have F_b := F_a.next hbb; have G_b := G_a.next hbb; have B_b := B_a.next hbb; have v0 := F_b.c0; have v1 := F_b.c1; have v2 := G_b.c0; have v3 := G_b.c1; have hwb := F_b.lt; have gwb := G_b.lt; have n0wb : w.heap.size ≠ wb.heap.size := (by omega); have n1wb : w.heap.size + 1 ≠ wb.heap.size := (by omega); have pb := owna.below hbb owna.lt; (try have Z_b := Z_a.next hbb)) | (go_simp; go_at_call 35; (with_reducible refine (HTG.out _ (G_a.alloc (.cells #[.int .i64 0, .slice none 0 0] 27)).ints).mono ?_); rintro eb wb ⟨Ab, kb, rfl, ownb, hbb⟩; have F_b := (F_a.alloc _).next hbb; have G_b := (G_a.alloc _).next hbb; have B_b := (B_a.alloc _).next hbb; have v0 := F_b.c0; have v1 := F_b.c1; have v2 := G_b.c0; have v3 := G_b.c1; have hwb := F_b.lt; have gwb := G_b.lt; have n0wb : w.heap.size ≠ wb.heap.size := (by omega); have n1wb : w.heap.size + 1 ≠ wb.heap.size := (by omega); have pb := (owna.below ((Below.refl wa.heap.size wa).alloc (Nat.le_refl _) (.cells #[.int .i64 0, .slice none 0 0] 27)) owna.lt).below hbb (fun k hk => by have := owna.lt k hk; simp; omega); have Z_b := (BoxAt.start wa 27).next hbb) | (go_simp; go_at_call 35; (with_reducible refine (HTF.out _ F_d.ints).mono ?_); rintro ea wa ⟨Aa, ka, rfl, owna, hba⟩; have F_a := F_d.next hba; have G_a := G_d.next hba; have B_a := B_d.next hba; have u0 := F_a.c0; have u1 := F_a.c1; have u2 := G_a.c0; have u3 := G_a.c1; have hwa := F_a.lt; have gwa := G_a.lt; have n0wa : w.heap.size ≠ wa.heap.size := (by omega); have n1wa : w.heap.size + 1 ≠ wa.heap.size := (by omega)) | (go_simp; go_at_call 35; (with_reducible refine (HTF.out _ F_D.ints).mono ?_); rintro ea wa ⟨Aa, ka, rfl, owna, hba⟩; have F_a := F_D.next hba; have G_a := G_D.next hba; have B_a := B_D.next hba; have u0 := F_a.c0; have u1 := F_a.c1; have u2 := G_a.c0; have u3 := G_a.c1; have hwa := F_a.lt; have gwa := G_a.lt; have n0wa : w.heap.size ≠ wa.heap.size := (by omega); have n1wa : w.heap.size + 1 ≠ wa.heap.size := (by omega); have Z_a := Z_D.next hba))
      all_goals
        have l2_F := F_c.lt
        have l2_G := G_c.lt
        have l2_B := B_c.size
        have sa := hba.size
        have sb := hbb.size
        have sc := hbc.size
        simp only [World.size_alloc, World.size_drew] at sa sb sc
        go_wp2_with fail
        go_meet
        first
          | (have zz : BoxAt wc w22.heap.size := by with_reducible exact Z_c
             refine ⟨w22.heap.size, wc.heap.size, w22.heap.size, Ac, kc, rfl, rfl, zz.put ownc (Nat.le_refl _) ?_, ⟨by omega, by omega, by omega⟩, F_c.put (by omega) _ _, G_c.put (by omega) _ _, B_c.put (by omega) _ _⟩
             first | omega | (simp; done) | (simp; omega))
          | (have zz : BoxAt wc wa.heap.size := by with_reducible exact Z_c
             refine ⟨wa.heap.size, wc.heap.size, wa.heap.size, Ac, kc, rfl, rfl, zz.put ownc (Nat.le_refl _) ?_, ⟨by omega, by omega, by omega⟩, F_c.put (by omega) _ _, G_c.put (by omega) _ _, B_c.put (by omega) _ _⟩
             first | omega | (simp; done) | (simp; omega))
          | (have zz : BoxAt wc wb.heap.size := by with_reducible exact Z_c
             refine ⟨wb.heap.size, wc.heap.size, wb.heap.size, Ac, kc, rfl, rfl, zz.put ownc (Nat.le_refl _) ?_, ⟨by omega, by omega, by omega⟩, F_c.put (by omega) _ _, G_c.put (by omega) _ _, B_c.put (by omega) _ _⟩
             first | omega | (simp; done) | (simp; omega))
          | exact ⟨wb.heap.size, wc.heap.size + 1, wc.heap.size, Ac, kc, rfl, rfl, FamObj.start (t := z) 27 sc ownc, ⟨by omega, by omega, by omega⟩, F_c.alloc _, G_c.alloc _, B_c.alloc _⟩
    case rest =>
      clear F_22 G_22 B_22
      clear Fa Fb Fl Ga Gb Gl Oa Ob Ol Za Zb Zl
      obtain ⟨lo_V, hi_V, bx_V, A26, k26, rfl, rfl, V_26, ⟨d_F_V, d_G_V, d_B_V⟩, F_26, G_26, B_26⟩ := hcut
      have O_26 := O_22.next B_26
      have Z_26 := Z_22.next B_26
      clear O_22 Z_22
      have Fa := F_26.c0
      have Fb := F_26.c1
      have Fl := F_26.lt
      have Ga := G_26.c0
      have Gb := G_26.c1
      have Gl := G_26.lt
      have Oa := O_26.c0
      have Ob := O_26.c1
      have Ol := O_26.lt
      have Za := Z_26.c0
      have Zb := Z_26.c1
      have Zl := Z_26.lt
      have Va := V_26.c0
      have Vb := V_26.c1
      have Vl := V_26.lt
      go_wp2_with fail
      clear Fa Fb Fl Ga Gb Gl Oa Ob Ol Za Zb Zl Va Vb Vl
      refine (HER.out _ _ _ _ _ V_26.ints O_26.ints).mono ?_
      rintro e27 w27 ⟨rfl, hb27⟩
      have F_27 := F_26.next hb27
      have G_27 := G_26.next hb27
      have O_27 := O_26.next hb27
      have Z_27 := Z_26.next hb27
      have V_27 := V_26.next hb27
      clear F_26 G_26 O_26 Z_26 V_26
      have Fa := F_27.c0
      have Fb := F_27.c1
      have Fl := F_27.lt
      have Ga := G_27.c0
      have Gb := G_27.c1
      have Gl := G_27.lt
      have Oa := O_27.c0
      have Ob := O_27.c1
      have Ol := O_27.lt
      have Za := Z_27.c0
      have Zb := Z_27.c1
      have Zl := Z_27.lt
      have Va := V_27.c0
      have Vb := V_27.c1
      have Vl := V_27.lt
      go_wp2_with fail
      clear Fa Fb Fl Ga Gb Gl Oa Ob Ol Za Zb Zl Va Vb Vl
      refine (heldFamily_any _ _ _ _ _ _ Z_27.ints lR (by omega) (by omega)).mono ?_
      rintro e28 w28 ⟨rfl, hb28⟩
      have F_28 := F_27.next hb28
      have G_28 := G_27.next hb28
      have O_28 := O_27.next hb28
      have Z_28 := Z_27.next hb28
      have V_28 := V_27.next hb28
      clear F_27 G_27 O_27 Z_27 V_27
      have Fa := F_28.c0
      have Fb := F_28.c1
      have Fl := F_28.lt
      have Ga := G_28.c0
      have Gb := G_28.c1
      have Gl := G_28.lt
      have Oa := O_28.c0
      have Ob := O_28.c1
      have Ol := O_28.lt
      have Za := Z_28.c0
      have Zb := Z_28.c1
      have Zl := Z_28.lt
      have Va := V_28.c0
      have Vb := V_28.c1
      have Vl := V_28.lt
      go_wp2_with fail
      go_returns
      exact ⟨rfl, F_28.below⟩

namespace fnExactEitherFamily
open Go.ChangeShapes Go.WideShapes Go.ChangeAt Go.RowKit Go.Deep Go.Joins
set_option linter.unusedVariables false
set_option maxRecDepth 100000 in
theorem lifted (os : Os) (started : os.Started) (H : Type) (enc : TypeId × Value → H) :
    ReturnsInHanded {} Try.checked os 8 .any (Rows.fnExactEitherFamilySpec.pre6 enc Try.prog Try.f8 Rows.fnExactEitherFamilyRow.domain false) (Rows.fnExactEitherFamilySpec.post enc Try.prog Try.f8 false true false false) := by
  refine returnsInHanded_of_change (C := Try.checked) own started (by kernel_rfl) Try.func8
    (ChangeSpec.witness6 (enc := enc) (C := Try.checked) false ⟨#[], #[.agg #[.int .i64 0, .slice none 0 0], .agg #[.int .i64 0, .slice none 0 0]], []⟩ 8 (by kernel_rfl) (by kernel_rfl) (by kernel_rfl) (by kernel_rfl)) ?_
  intro W base args ds gs before hval0 hW hcnd _
  have hval : ∀ (j : Nat) t v, Try.f8.params[j]? = some t → args[j]? = some v → Value.okWide Try.prog W .any base t v := hval0
  have hW' := hW
  obtain ⟨p, q, hA0, hV, rfl, hfz, hnd⟩ := hW
  have hA : DataW.TrodAll enc Try.prog W 0 (fun _ => true) true Try.f8.params.toList args.toList ds p := hA0
  rw [Try.params8] at hA hval
  obtain ⟨v0, vs0, d0, ds0, p0, q0, hargs, rfl, rfl, h0, r0⟩ := trodAll_cons hA
  obtain ⟨v1, vs1, d1, ds1, p1, q1, rfl, rfl, rfl, h1, r1⟩ := trodAll_cons r0
  obtain ⟨rfl, rfl, rfl⟩ := trodAll_nil r1
  obtain rfl : args = #[v0, v1] := by cases args; simp_all
  obtain ⟨rfl, rfl⟩ := trodVars_none hV
  have k0 := h0
  have lt0 : ∀ x ∈ p0, x.block < W.heap.size := by obtain ⟨m, hm⟩ := k0; exact DataW.trod_lt m _ _ _ hm
  obtain ⟨n0, A0, c0, xs0, rfl, hb0, hl0, wf0⟩ := open_family (hval 0 41 v0 rfl rfl) h0
  have k1 := h1
  have lt1 : ∀ x ∈ p1, x.block < W.heap.size := by obtain ⟨m, hm⟩ := k1; exact DataW.trod_lt m _ _ _ hm
  obtain ⟨n1, A1, c1, xs1, rfl, hb1, hl1, wf1⟩ := open_family (hval 1 41 v1 rfl rfl) h1
  clear hA0 hval0
  refine (exEitherFamily_walk n0 A0 c0 xs0 n1 A1 c1 xs1 W hb0 hl0 wf0 hb1 hl1 wf1).mono fun e W' ⟨he, bel⟩ => ?_
  subst he
  exact ⟨_, rfl, _, _, _, [], _, [], hW', trodAll_mk1 (shut_bool Try.underlying4 _), (trodAll_cons_mk (Below.trod laidOut (by kernel_rfl) (of_decide_eq_true (by kernel_rfl)) k0 bel lt0) (trodAll_cons_mk (Below.trod laidOut (by kernel_rfl) (of_decide_eq_true (by kernel_rfl)) k1 bel lt1) trodAll_mk0)), rfl, bel.frame _, fun h => by cases h⟩

theorem holds : Rows.FnExactEitherFamilySaid :=
  OpenClaim.holds_of_wide 8 Try.f8 rfl rfl rfl rfl rfl rfl rfl ⟨rfl, rfl, rfl, rfl, rfl⟩ rfl rfl rfl rfl rfl (by kernel_rfl) Try.func8 (by kernel_rfl)
    (of_decide_eq_true (by kernel_rfl)) (by unfold Func.isWrapper; first | (rw [if_pos (by decide +kernel)]; kernel_rfl) | (rw [if_neg (by decide +kernel)]; exact ⟨rfl, rfl⟩))
    (fun os started H enc _ => lifted os started H enc)
end fnExactEitherFamily
end Go.Proofs.Ytmdmmebekicpkaa
