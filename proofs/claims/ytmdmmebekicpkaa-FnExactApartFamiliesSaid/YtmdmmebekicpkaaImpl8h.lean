/- Families of what is in both, in either, or has things of their own: the program's. -/
import Derived.Test.YtmdmmebekicpkaaImpl8f
import Derived.Test.YtmdmmebekicpkaaSpec8d
import Derived.Test.YtmdmmebekicpkaaConcatI
namespace Go.Proofs.Ytmdmmebekicpkaa
open Go.RowKit
set_option maxRecDepth 100000

/-- Two families' boxes, in a world. -/
structure PairAt (w u : World) (t : Int) (A : Option Addr) (m c : Nat) (xs : List Int) (s : Int) (B : Option Addr) (k d : Nat) (ys : List Int) : Prop where
  f0 : u.cell? ⟨w.heap.size, 0, none⟩ = some (.int .i64 t)
  f1 : u.cell? ⟨w.heap.size, 1, none⟩ = some (.slice A m c)
  g0 : u.cell? ⟨w.heap.size + 1, 0, none⟩ = some (.int .i64 s)
  g1 : u.cell? ⟨w.heap.size + 1, 1, none⟩ = some (.slice B k d)
  rx : IntsIn u w.heap.size A xs
  ry : IntsIn u w.heap.size B ys
  below : Below w.heap.size w u
  lt : w.heap.size + 2 ≤ u.heap.size
theorem PairAt.step {w u v : World} {t : Int} {A : Option Addr} {m c : Nat} {xs : List Int} {s : Int} {B : Option Addr} {k d : Nat} {ys : List Int} {H : Nat} (h : PairAt w u t A m c xs s B k d ys) (hb : Below H u v) (hH : w.heap.size + 2 ≤ H) : PairAt w v t A m c xs s B k d ys :=
  ⟨(hb.cell (by simp; omega)).trans h.f0, (hb.cell (by simp; omega)).trans h.f1, (hb.cell (by simp; omega)).trans h.g0, (hb.cell (by simp; omega)).trans h.g1, h.rx.below hb (by omega), h.ry.below hb (by omega), h.below.trans (hb.mono (by omega)), Nat.le_trans h.lt hb.size⟩
theorem PairAt.next {w u v : World} {t : Int} {A : Option Addr} {m c : Nat} {xs : List Int} {s : Int} {B : Option Addr} {k d : Nat} {ys : List Int} (h : PairAt w u t A m c xs s B k d ys) (hb : Below u.heap.size u v) : PairAt w v t A m c xs s B k d ys := h.step hb h.lt
theorem PairAt.start (w : World) (t : Int) (A : Option Addr) (m c : Nat) (xs : List Int) (s : Int) (B : Option Addr) (k d : Nat) (ys : List Int) (T : TypeId) (hx : IntsIn w w.heap.size A xs) (hy : IntsIn w w.heap.size B ys) :
    PairAt w ((w.alloc (.cells #[.int .i64 t, .slice A m c] T)).alloc (.cells #[.int .i64 s, .slice B k d] T)) t A m c xs s B k d ys := by
  have b1 := (Below.refl (w.heap.size + 1) (w.alloc (.cells #[.int .i64 t, .slice A m c] T))).alloc (by simp) (.cells #[.int .i64 s, .slice B k d] T)
  have b0 := (Below.refl w.heap.size w).alloc (Nat.le_refl _) (.cells #[.int .i64 t, .slice A m c] T)
  exact ⟨(b1.cell (by simp)).trans (by rw [World.cell?_alloc_at _ _ _ _ rfl]; rfl), (b1.cell (by simp)).trans (by rw [World.cell?_alloc_at _ _ _ _ rfl]; rfl),
    by rw [World.cell?_alloc_at _ _ _ _ (by simp)]; rfl, by rw [World.cell?_alloc_at _ _ _ _ (by simp)]; rfl,
    (hx.below b0 (Nat.le_refl _)).below b1 (by omega), (hy.below b0 (Nat.le_refl _)).below b1 (by omega), b0.trans (b1.mono (by omega)), by simp⟩

set_option maxHeartbeats 1000000 in
theorem families_any (t : Int) (A : Option Addr) (c : Nat) (xs : List Int) (s : Int) (B : Option Addr) (d : Nat) (ys : List Int) (w : World) (hx : IntsIn w w.heap.size A xs) (hy : IntsIn w w.heap.size B ys) (hl : xs.length ≤ 1048576) (hl2 : ys.length ≤ 1048576) :
    Calls Try.prog 68 #[.agg #[.int .i64 t, .slice A xs.length c], .agg #[.int .i64 s, .slice B ys.length d]] w fun e w' => e = .returned (.bool (twoOk t xs s ys)) ∧ Below w.heap.size w w' := by
  have D0 := PairAt.start w t A xs.length c xs s B ys.length d ys 27 hx hy
  have HX : Hid (∀ u, PairAt w u t A xs.length c xs s B ys.length d ys → Calls Try.prog 22 #[.agg #[.int .i64 t, .slice A xs.length c]] u fun e w' => e = .returned (.bool (famOkB t xs)) ∧ Below u.heap.size u w') := fun u h =>
    familyOk_any t A c xs u (h.rx.more (by have := h.lt; omega)) hl
  have HY : Hid (∀ u, PairAt w u t A xs.length c xs s B ys.length d ys → Calls Try.prog 22 #[.agg #[.int .i64 s, .slice B ys.length d]] u fun e w' => e = .returned (.bool (famOkB s ys)) ∧ Below u.heap.size u w') := fun u h =>
    familyOk_any s B d ys u (h.ry.more (by have := h.lt; omega)) hl2
  have HV : Hid (twoOk t xs s ys = (famOkB t xs && (famOkB s ys && decide (t = s)))) := rfl
  generalize twoOk t xs s ys = v at *
  generalize xs.length = m at *
  generalize ys.length = k at *
  clear hx hy hl hl2
  obtain ⟨f0, f1, g0, g1, -, -, -, -⟩ := id D0
  cases hF : famOkB t xs with
  | false =>
    rw [hF] at HX HV
    rw [Bool.false_and] at HV
    clear hF
    go_enter Try.func68, Try.ntmps68
    go_wp2_with fail
    refine (HX.out _ D0).mono ?_
    rintro e1 w1 ⟨rfl, hb1⟩
    have D1 := D0.next hb1
    go_wp2_with fail
    go_returns
    exact ⟨retB HV.out.symm, D1.below⟩
  | true =>
    rw [hF] at HX HV
    rw [Bool.true_and] at HV
    clear hF
    cases hG : famOkB s ys with
    | false =>
      rw [hG] at HY HV
      rw [Bool.false_and] at HV
      clear hG
      go_enter Try.func68, Try.ntmps68
      go_wp2_with fail
      refine (HX.out _ D0).mono ?_
      rintro e1 w1 ⟨rfl, hb1⟩
      have D1 := D0.next hb1
      clear f0 f1 g0 g1
      obtain ⟨f0, f1, g0, g1, -, -, -, -⟩ := id D1
      go_wp2_with fail
      refine (HY.out _ D1).mono ?_
      rintro e2 w2 ⟨rfl, hb2⟩
      have D2 := D1.next hb2
      go_wp2_with fail
      go_returns
      exact ⟨retB HV.out.symm, D2.below⟩
    | true =>
      rw [hG] at HY HV
      rw [Bool.true_and] at HV
      clear hG
      by_cases hts : t = s
      · rw [decide_eq_true hts] at HV
        subst hts
        go_enter Try.func68, Try.ntmps68
        go_wp2_with fail
        refine (HX.out _ D0).mono ?_
        rintro e1 w1 ⟨rfl, hb1⟩
        have D1 := D0.next hb1
        clear f0 f1 g0 g1
        obtain ⟨f0, f1, g0, g1, -, -, -, -⟩ := id D1
        go_wp2_with fail
        refine (HY.out _ D1).mono ?_
        rintro e2 w2 ⟨rfl, hb2⟩
        have D2 := D1.next hb2
        clear f0 f1 g0 g1
        obtain ⟨f0, f1, g0, g1, -, -, -, -⟩ := id D2
        go_wp2_with fail
        go_returns
        exact ⟨retB (by rw [HV.out]), D2.below⟩
      · rw [decide_eq_false hts] at HV
        have e1 : (t = s) = False := eq_false hts
        have e2 : (t == s) = false := by simp [hts]
        clear hts
        go_enter Try.func68, Try.ntmps68
        go_wp2_with fail
        refine (HX.out _ D0).mono ?_
        rintro e1 w1 ⟨rfl, hb1⟩
        have D1 := D0.next hb1
        clear f0 f1 g0 g1
        obtain ⟨f0, f1, g0, g1, -, -, -, -⟩ := id D1
        go_wp2_with fail
        refine (HY.out _ D1).mono ?_
        rintro e2 w2 ⟨rfl, hb2⟩
        have D2 := D1.next hb2
        clear f0 f1 g0 g1
        obtain ⟨f0, f1, g0, g1, -, -, -, -⟩ := id D2
        go_wp2_with fail
        go_returns
        exact ⟨retB (by rw [HV.out]), D2.below⟩

/-- Two families' boxes and the result's. -/
def TrioAt (w u : World) (t : Int) (A : Option Addr) (m c : Nat) (xs : List Int) (s : Int) (B : Option Addr) (k d : Nat) (ys : List Int) : Prop :=
  PairAt w u t A m c xs s B k d ys ∧ u.cell? ⟨w.heap.size + 2, 0, none⟩ = some (.int .i64 0) ∧ u.cell? ⟨w.heap.size + 2, 1, none⟩ = some (.slice none 0 0) ∧ u.frozen? ⟨w.heap.size + 2, 0, none⟩ = false ∧ u.frozen? ⟨w.heap.size + 2, 1, none⟩ = false ∧ w.heap.size + 3 ≤ u.heap.size
theorem TrioAt.next {w u v : World} {t : Int} {A : Option Addr} {m c : Nat} {xs : List Int} {s : Int} {B : Option Addr} {k d : Nat} {ys : List Int} (h : TrioAt w u t A m c xs s B k d ys) (hb : Below u.heap.size u v) : TrioAt w v t A m c xs s B k d ys := by
  obtain ⟨hp, q0, q1, r0, r1, lt⟩ := h
  exact ⟨hp.next hb, (hb.cell (by simp; omega)).trans q0, (hb.cell (by simp; omega)).trans q1, (hb.frozen (by simp; omega)).trans r0, (hb.frozen (by simp; omega)).trans r1, Nat.le_trans lt hb.size⟩
theorem TrioAt.drew {w u : World} {t : Int} {A : Option Addr} {m c : Nat} {xs : List Int} {s : Int} {B : Option Addr} {k d : Nat} {ys : List Int} (h : TrioAt w u t A m c xs s B k d ys) : TrioAt w u.drew t A m c xs s B k d ys := h.next ((Below.refl _ _).drew)
theorem TrioAt.alloc {w u : World} {t : Int} {A : Option Addr} {m c : Nat} {xs : List Int} {s : Int} {B : Option Addr} {k d : Nat} {ys : List Int} (h : TrioAt w u t A m c xs s B k d ys) (o : Obj) : TrioAt w (u.alloc o) t A m c xs s B k d ys := h.next ((Below.refl _ _).alloc (Nat.le_refl _) o)
theorem TrioAt.start (w : World) (t : Int) (A : Option Addr) (m c : Nat) (xs : List Int) (s : Int) (B : Option Addr) (k d : Nat) (ys : List Int) (T : TypeId) (hx : IntsIn w w.heap.size A xs) (hy : IntsIn w w.heap.size B ys) :
    TrioAt w (((w.alloc (.cells #[.int .i64 t, .slice A m c] T)).alloc (.cells #[.int .i64 s, .slice B k d] T)).alloc (.cells #[.int .i64 0, .slice none 0 0] T)) t A m c xs s B k d ys :=
  ⟨(PairAt.start w t A m c xs s B k d ys T hx hy).next ((Below.refl _ _).alloc (Nat.le_refl _) _), by rw [World.cell?_alloc_at _ _ _ _ (by simp)]; rfl, by rw [World.cell?_alloc_at _ _ _ _ (by simp)]; rfl,
    World.frozen?_alloc_at _ _ _ _ (by simp), World.frozen?_alloc_at _ _ _ _ (by simp), by simp⟩
/-- The cells that a region of two families reads, and what lies beside them. -/
def PairCells (w u : World) (t : Int) (A : Option Addr) (m c : Nat) (xs : List Int) (s : Int) (B : Option Addr) (k d : Nat) (ys : List Int) : Prop :=
  u.cell? ⟨w.heap.size, 0, none⟩ = some (.int .i64 t) ∧ u.cell? ⟨w.heap.size, 1, none⟩ = some (.slice A m c) ∧ u.cell? ⟨w.heap.size + 1, 1, none⟩ = some (.slice B k d) ∧ PairAt w u t A m c xs s B k d ys
theorem PairAt.cells {w u : World} {t : Int} {A : Option Addr} {m c : Nat} {xs : List Int} {s : Int} {B : Option Addr} {k d : Nat} {ys : List Int} (h : PairAt w u t A m c xs s B k d ys) : PairCells w u t A m c xs s B k d ys := ⟨h.f0, h.f1, h.g1, h⟩
theorem PairAt.stored {w u : World} {t : Int} {A : Option Addr} {m c : Nat} {xs : List Int} {s : Int} {B : Option Addr} {k d : Nat} {ys : List Int} (h : PairAt w u t A m c xs s B k d ys) (v v' : Value) :
    PairCells w ((u.setCell ⟨w.heap.size + 1 + 1, 0, none⟩ v).setCell ⟨w.heap.size + 1 + 1, 1, none⟩ v') t A m c xs s B k d ys :=
  (h.step (((Below.refl (w.heap.size + 2) u).setCell (p := ⟨w.heap.size + 1 + 1, 0, none⟩) (by simp) v).setCell (p := ⟨w.heap.size + 1 + 1, 1, none⟩) (by simp) v') (Nat.le_refl _)).cells

set_option maxHeartbeats 4000000 in
theorem both_any (t : Int) (A : Option Addr) (c : Nat) (xs : List Int) (s : Int) (B : Option Addr) (d : Nat) (ys : List Int) (w : World) (hx : IntsIn w w.heap.size A xs) (hy : IntsIn w w.heap.size B ys) (hl : xs.length ≤ 1048576) (hl2 : ys.length ≤ 1048576) :
    Calls Try.prog 24 #[.agg #[.int .i64 t, .slice A xs.length c], .agg #[.int .i64 s, .slice B ys.length d]] w (GotFam w (twoT t xs s ys) (andL t xs s ys) (twoOk t xs s ys)) := by
  have D0 := TrioAt.start w t A xs.length c xs s B ys.length d ys 27 hx hy
  have HO : Hid (∀ u, TrioAt w u t A xs.length c xs s B ys.length d ys → Calls Try.prog 68 #[.agg #[.int .i64 t, .slice A xs.length c], .agg #[.int .i64 s, .slice B ys.length d]] u fun e w' => e = .returned (.bool (twoOk t xs s ys)) ∧ Below u.heap.size u w') := fun u h =>
    families_any t A c xs s B d ys u (h.1.rx.more (by have := h.1.lt; omega)) (h.1.ry.more (by have := h.1.lt; omega)) hl hl2
  unfold twoT andL
  obtain ⟨⟨f0, f1, g0, g1, -, -, -, -⟩, q0, q1, r0, r1, lt⟩ := id D0
  cases h2 : twoOk t xs s ys with
  | false =>
    rw [h2] at HO
    rw [if_neg (by simp), if_neg (by simp)]
    generalize xs.length = m at *
    generalize ys.length = k at *
    clear hx hy hl hl2 h2
    go_enter Try.func24, Try.ntmps24
    go_wp2_with fail
    refine (HO.out _ D0).mono ?_
    rintro e1 w1 ⟨rfl, hb1⟩
    have D1 := D0.next hb1
    clear f0 f1 g0 g1 q0 q1 r0 r1 lt
    obtain ⟨⟨f0, f1, g0, g1, -, -, fb, -⟩, q0, q1, r0, r1, lt⟩ := id D1
    go_wp2_with fail
    refine bodyPost_ret (v := .tuple #[.agg #[.int .i64 0, .slice none 0 0], .bool false]) (by simp [results, Try.results24, go_sem, *]) rfl ?_
    exact ⟨none, 0, rfl, OwnI.nil _ _, (fb.setCell (p := ⟨w.heap.size + 2, 0, none⟩) (by simp) _).setCell (p := ⟨w.heap.size + 2, 1, none⟩) (by simp) _⟩
  | true =>
    rw [h2] at HO
    rw [if_pos rfl, if_pos rfl]
    obtain ⟨T, ns, ms, rfl, rfl, hT, rfl, rfl, hn, hm⟩ := twoOk_iff.1 h2
    rw [natOf_natI, natOf_natI, Int.toNat_natCast]
    have hP := pow_64 hT
    have hln := hn.len
    have hlm := hm.len
    have HE : Hid (∀ u, TrioAt w u (T : Nat) A (natI ns).length c (natI ns) (T : Nat) B (natI ms).length d (natI ms) → Calls Try.prog 69 #[.slice A (natI ns).length c, .slice B (natI ms).length d, .func (.func 70) #[] #[]] u (GotInts u (natI (withEach (fun _ _ => true) ns ms)))) := fun u h => by
      rw [natI_length, natI_length]
      exact each_any 70 (fun _ _ => true) A B c d ns ms u (h.1.rx.more (by have := h.1.lt; omega)) (h.1.ry.more (by have := h.1.lt; omega)) (by omega) (by omega) (fun x hx => by have := hn.lt x hx; omega) (fun x hx => by have := hm.lt x hx; omega) (fun _ _ => rfl) (fun u _ _ _ _ => always_any _ _ u)
    have hEQ := and_of (T := T) ns ms
    have hlen := withEach_len (fun _ _ => true) ms ns
    have hle2 : ns.length * ms.length ≤ 64 * 64 := Nat.mul_le_mul (by omega) (by omega)
    have hlt := withEach_lt (fits := (fun _ _ => true)) hn.lt hm.lt
    have HF : Hid (∀ u A2 c2, IntsIn u u.heap.size A2 (natI (withEach (fun _ _ => true) ns ms)) → Calls Try.prog 59 #[.int .i64 (T : Nat), .slice A2 (natI (withEach (fun _ _ => true) ns ms)).length c2] u (MadeFam u (T : Nat) (natI (famAnd T ns ms)))) := fun u A2 c2 h => by
      rw [← hEQ]; exact familyOf_any T (T : Nat) A2 c2 _ _ u (by omega) h (natI_length _).symm (by rw [natI_length]; omega) hlt
    clear hEQ hlen hle2 hlt
    generalize natI (famAnd T ns ms) = R at *
    generalize natI (withEach (fun _ _ => true) ns ms) = zs at *
    generalize (natI ns).length = m at *
    generalize (natI ms).length = k at *
    generalize hnx : natI ns = nx at *
    generalize hmx : natI ms = mx at *
    clear hx hy hl hl2 h2 hn hm hln hlm hP hnx hmx
    go_enter Try.func24, Try.ntmps24
    go_wp2_with fail
    refine (HO.out _ D0).mono ?_
    rintro e1 w1 ⟨rfl, hb1⟩
    have E0 := D0.next hb1
    have E1 := E0.drew
    have D1 := E1.1.cells
    clear f0 f1 g0 g1 q0 q1 r0 r1 lt D0
    go_wp2_with fail
    go_region_held3 (fun w' => w'.cell? ⟨w.heap.size, 0, none⟩ = some (.int .i64 (T : Nat)) ∧ w'.cell? ⟨w.heap.size, 1, none⟩ = some (.slice A m c) ∧ w'.cell? ⟨w.heap.size + 1, 1, none⟩ = some (.slice B k d) ∧ PairAt w w' (T : Nat) A m c nx (T : Nat) B k d mx) (first | exact D1 | exact D3 | exact D4 | exact E4.1.stored _ _) (first
      | (go_simp; go_at_call 59; (with_reducible refine (HF.out _ _ _ own3.ints).mono ?_); rintro e4 w4 ⟨A4, c4, rfl, own4, hb4⟩; have E4 := E3.next hb4; have D4 := E4.1.cells; obtain ⟨⟨f0, f1, g0, g1, -, -, fb, -⟩, q0, q1, r0, r1, lt⟩ := id E4; have lt3 := E3.2.2.2.2.2)
      | (go_simp; go_at_call 69; (with_reducible refine (HE.out _ E1).mono ?_); rintro e3 w3 ⟨A3, c3, rfl, own3, hb3⟩; have E3 := E1.next hb3; have D3 := E3.1.cells))
    all_goals
      have hge := own4.ge
      go_wp2_with fail
      refine bodyPost_ret (v := .tuple #[.agg #[.int .i64 (T : Nat), .slice A4 R.length c4], .bool true]) (by simp [results, Try.results24, go_sem, *]) rfl ?_
      refine ⟨A4, c4, rfl, OwnI.far (OwnI.far (own4.more (by omega)) ?_ _) ?_ _, (fb.setCell (p := ⟨w.heap.size + 2, 0, none⟩) (by simp) _).setCell (p := ⟨w.heap.size + 2, 1, none⟩) (by simp) _⟩
      · intro k hk; have := hge k hk; simp; omega
      · intro k hk; have := hge k hk; simp; omega

set_option maxHeartbeats 4000000 in
theorem apart2_any (t : Int) (A : Option Addr) (c : Nat) (xs : List Int) (s : Int) (B : Option Addr) (d : Nat) (ys : List Int) (w : World) (hx : IntsIn w w.heap.size A xs) (hy : IntsIn w w.heap.size B ys) (hl : xs.length ≤ 1048576) (hl2 : ys.length ≤ 1048576) :
    Calls Try.prog 32 #[.agg #[.int .i64 t, .slice A xs.length c], .agg #[.int .i64 s, .slice B ys.length d]] w (GotFam w (twoT t xs s ys) (apL t xs s ys) (twoOk t xs s ys)) := by
  have D0 := TrioAt.start w t A xs.length c xs s B ys.length d ys 27 hx hy
  have HO : Hid (∀ u, TrioAt w u t A xs.length c xs s B ys.length d ys → Calls Try.prog 68 #[.agg #[.int .i64 t, .slice A xs.length c], .agg #[.int .i64 s, .slice B ys.length d]] u fun e w' => e = .returned (.bool (twoOk t xs s ys)) ∧ Below u.heap.size u w') := fun u h =>
    families_any t A c xs s B d ys u (h.1.rx.more (by have := h.1.lt; omega)) (h.1.ry.more (by have := h.1.lt; omega)) hl hl2
  unfold twoT apL
  obtain ⟨⟨f0, f1, g0, g1, -, -, -, -⟩, q0, q1, r0, r1, lt⟩ := id D0
  cases h2 : twoOk t xs s ys with
  | false =>
    rw [h2] at HO
    rw [if_neg (by simp), if_neg (by simp)]
    generalize xs.length = m at *
    generalize ys.length = k at *
    clear hx hy hl hl2 h2
    go_enter Try.func32, Try.ntmps32
    go_wp2_with fail
    refine (HO.out _ D0).mono ?_
    rintro e1 w1 ⟨rfl, hb1⟩
    have D1 := D0.next hb1
    clear f0 f1 g0 g1 q0 q1 r0 r1 lt
    obtain ⟨⟨f0, f1, g0, g1, -, -, fb, -⟩, q0, q1, r0, r1, lt⟩ := id D1
    go_wp2_with fail
    refine bodyPost_ret (v := .tuple #[.agg #[.int .i64 0, .slice none 0 0], .bool false]) (by simp [results, Try.results32, go_sem, *]) rfl ?_
    exact ⟨none, 0, rfl, OwnI.nil _ _, (fb.setCell (p := ⟨w.heap.size + 2, 0, none⟩) (by simp) _).setCell (p := ⟨w.heap.size + 2, 1, none⟩) (by simp) _⟩
  | true =>
    rw [h2] at HO
    rw [if_pos rfl, if_pos rfl]
    obtain ⟨T, ns, ms, rfl, rfl, hT, rfl, rfl, hn, hm⟩ := twoOk_iff.1 h2
    rw [natOf_natI, natOf_natI, Int.toNat_natCast]
    have hP := pow_64 hT
    have hln := hn.len
    have hlm := hm.len
    have HE : Hid (∀ u, TrioAt w u (T : Nat) A (natI ns).length c (natI ns) (T : Nat) B (natI ms).length d (natI ms) → Calls Try.prog 69 #[.slice A (natI ns).length c, .slice B (natI ms).length d, .func (.func 79) #[] #[]] u (GotInts u (natI (withEach (fun x y => decide (x &&& y = 0)) ns ms)))) := fun u h => by
      rw [natI_length, natI_length]
      exact each_any 79 (fun x y => decide (x &&& y = 0)) A B c d ns ms u (h.1.rx.more (by have := h.1.lt; omega)) (h.1.ry.more (by have := h.1.lt; omega)) (by omega) (by omega) (fun x hx => by have := hn.lt x hx; omega) (fun x hx => by have := hm.lt x hx; omega) (fun _ _ => rfl) (fun u x y hx hy => apart_any x y hx hy u)
    have hEQ := ap_of (T := T) hn.lt hm.lt
    have hlen := withEach_len (fun x y => decide (x &&& y = 0)) ms ns
    have hle2 : ns.length * ms.length ≤ 64 * 64 := Nat.mul_le_mul (by omega) (by omega)
    have hlt := withEach_lt (fits := (fun x y => decide (x &&& y = 0))) hn.lt hm.lt
    have HF : Hid (∀ u A2 c2, IntsIn u u.heap.size A2 (natI (withEach (fun x y => decide (x &&& y = 0)) ns ms)) → Calls Try.prog 59 #[.int .i64 (T : Nat), .slice A2 (natI (withEach (fun x y => decide (x &&& y = 0)) ns ms)).length c2] u (MadeFam u (T : Nat) (natI (famAp T ns ms)))) := fun u A2 c2 h => by
      rw [← hEQ]; exact familyOf_any T (T : Nat) A2 c2 _ _ u (by omega) h (natI_length _).symm (by rw [natI_length]; omega) hlt
    clear hEQ hlen hle2 hlt
    generalize natI (famAp T ns ms) = R at *
    generalize natI (withEach (fun x y => decide (x &&& y = 0)) ns ms) = zs at *
    generalize (natI ns).length = m at *
    generalize (natI ms).length = k at *
    generalize hnx : natI ns = nx at *
    generalize hmx : natI ms = mx at *
    clear hx hy hl hl2 h2 hn hm hln hlm hP hnx hmx
    go_enter Try.func32, Try.ntmps32
    go_wp2_with fail
    refine (HO.out _ D0).mono ?_
    rintro e1 w1 ⟨rfl, hb1⟩
    have E0 := D0.next hb1
    have E1 := E0.drew
    have D1 := E1.1.cells
    clear f0 f1 g0 g1 q0 q1 r0 r1 lt D0
    go_wp2_with fail
    go_region_held3 (fun w' => w'.cell? ⟨w.heap.size, 0, none⟩ = some (.int .i64 (T : Nat)) ∧ w'.cell? ⟨w.heap.size, 1, none⟩ = some (.slice A m c) ∧ w'.cell? ⟨w.heap.size + 1, 1, none⟩ = some (.slice B k d) ∧ PairAt w w' (T : Nat) A m c nx (T : Nat) B k d mx) (first | exact D1 | exact D3 | exact D4 | exact E4.1.stored _ _) (first
      | (go_simp; go_at_call 59; (with_reducible refine (HF.out _ _ _ own3.ints).mono ?_); rintro e4 w4 ⟨A4, c4, rfl, own4, hb4⟩; have E4 := E3.next hb4; have D4 := E4.1.cells; obtain ⟨⟨f0, f1, g0, g1, -, -, fb, -⟩, q0, q1, r0, r1, lt⟩ := id E4; have lt3 := E3.2.2.2.2.2)
      | (go_simp; go_at_call 69; (with_reducible refine (HE.out _ E1).mono ?_); rintro e3 w3 ⟨A3, c3, rfl, own3, hb3⟩; have E3 := E1.next hb3; have D3 := E3.1.cells))
    all_goals
      have hge := own4.ge
      go_wp2_with fail
      refine bodyPost_ret (v := .tuple #[.agg #[.int .i64 (T : Nat), .slice A4 R.length c4], .bool true]) (by simp [results, Try.results32, go_sem, *]) rfl ?_
      refine ⟨A4, c4, rfl, OwnI.far (OwnI.far (own4.more (by omega)) ?_ _) ?_ _, (fb.setCell (p := ⟨w.heap.size + 2, 0, none⟩) (by simp) _).setCell (p := ⟨w.heap.size + 2, 1, none⟩) (by simp) _⟩
      · intro k hk; have := hge k hk; simp; omega
      · intro k hk; have := hge k hk; simp; omega

set_option maxHeartbeats 4000000 in
theorem either_any (t : Int) (A : Option Addr) (c : Nat) (xs : List Int) (s : Int) (B : Option Addr) (d : Nat) (ys : List Int) (w : World) (hx : IntsIn w w.heap.size A xs) (hy : IntsIn w w.heap.size B ys) (hl : xs.length ≤ 1048576) (hl2 : ys.length ≤ 1048576) (kA : NilOk A xs.length c) (kB : NilOk B ys.length d) :
    Calls Try.prog 28 #[.agg #[.int .i64 t, .slice A xs.length c], .agg #[.int .i64 s, .slice B ys.length d]] w (GotFam w (twoT t xs s ys) (orL t xs s ys) (twoOk t xs s ys)) := by
  have D0 := TrioAt.start w t A xs.length c xs s B ys.length d ys 27 hx hy
  have HO : Hid (∀ u, TrioAt w u t A xs.length c xs s B ys.length d ys → Calls Try.prog 68 #[.agg #[.int .i64 t, .slice A xs.length c], .agg #[.int .i64 s, .slice B ys.length d]] u fun e w' => e = .returned (.bool (twoOk t xs s ys)) ∧ Below u.heap.size u w') := fun u h =>
    families_any t A c xs s B d ys u (h.1.rx.more (by have := h.1.lt; omega)) (h.1.ry.more (by have := h.1.lt; omega)) hl hl2
  unfold twoT orL
  obtain ⟨⟨f0, f1, g0, g1, -, -, -, -⟩, q0, q1, r0, r1, lt⟩ := id D0
  cases h2 : twoOk t xs s ys with
  | false =>
    rw [h2] at HO
    rw [if_neg (by simp), if_neg (by simp)]
    generalize xs.length = m at *
    generalize ys.length = k at *
    clear hx hy hl hl2 h2
    go_enter Try.func28, Try.ntmps28
    go_wp2_with fail
    refine (HO.out _ D0).mono ?_
    rintro e1 w1 ⟨rfl, hb1⟩
    have D1 := D0.next hb1
    clear f0 f1 g0 g1 q0 q1 r0 r1 lt
    obtain ⟨⟨f0, f1, g0, g1, -, -, fb, -⟩, q0, q1, r0, r1, lt⟩ := id D1
    go_wp2_with fail
    refine bodyPost_ret (v := .tuple #[.agg #[.int .i64 0, .slice none 0 0], .bool false]) (by simp [results, Try.results28, go_sem, *]) rfl ?_
    exact ⟨none, 0, rfl, OwnI.nil _ _, (fb.setCell (p := ⟨w.heap.size + 2, 0, none⟩) (by simp) _).setCell (p := ⟨w.heap.size + 2, 1, none⟩) (by simp) _⟩
  | true =>
    rw [h2] at HO
    rw [if_pos rfl, if_pos rfl]
    obtain ⟨T, ns, ms, rfl, rfl, hT, rfl, rfl, hn, hm⟩ := twoOk_iff.1 h2
    rw [natOf_natI, natOf_natI, Int.toNat_natCast]
    have hP := pow_64 hT
    have hln := hn.len
    have hlm := hm.len
    have HC : Hid (∀ u sb, TrioAt w u (T : Nat) A (natI ns).length c (natI ns) (T : Nat) B (natI ms).length d (natI ms) → u.cell? ⟨sb, 0, none⟩ = some (.slice A (natI ns).length c) → u.cell? ⟨sb, 1, none⟩ = some (.slice B (natI ms).length d) → Calls Try.prog 76 #[.slice (some ⟨sb, 0, none⟩) 2 2] u (GotInts u (natI (ns ++ ms)))) := fun u sb h e1 e2 => by
      rw [natI_app]
      exact concatI_any sb A B _ c _ d (natI ns) (natI ms) u e1 e2 (h.1.rx.more (by have := h.1.lt; omega)) rfl (h.1.ry.more (by have := h.1.lt; omega)) rfl kA kB (by rw [natI_length, natI_length]; omega)
    have hEQ := or_of (T := T) ns ms
    have hlt : ∀ x ∈ ns ++ ms, x < 2 ^ T := fun x hx => (List.mem_append.1 hx).elim (hn.lt x) (hm.lt x)
    have hlen : (ns ++ ms).length ≤ 128 := by rw [List.length_append]; omega
    have HF : Hid (∀ u A2 c2, IntsIn u u.heap.size A2 (natI (ns ++ ms)) → Calls Try.prog 59 #[.int .i64 (T : Nat), .slice A2 (natI (ns ++ ms)).length c2] u (MadeFam u (T : Nat) (natI (famOr T ns ms)))) := fun u A2 c2 h => by
      rw [← hEQ]; exact familyOf_any T (T : Nat) A2 c2 _ _ u (by omega) h (natI_length _).symm (by rw [natI_length]; omega) hlt
    clear hEQ hlt hlen kA kB
    generalize natI (famOr T ns ms) = R at *
    generalize natI (ns ++ ms) = zs at *
    generalize (natI ns).length = m at *
    generalize (natI ms).length = k at *
    generalize hnx : natI ns = nx at *
    generalize hmx : natI ms = mx at *
    clear hx hy hl hl2 h2 hn hm hln hlm hP hnx hmx
    go_enter Try.func28, Try.ntmps28
    go_wp2_with fail
    refine (HO.out _ D0).mono ?_
    rintro e1 w1 ⟨rfl, hb1⟩
    have E0 := D0.next hb1
    have E1 := E0.drew
    have D1 := E1.1.cells
    clear f0 f1 g0 g1 q0 q1 r0 r1 lt D0
    have HC2 : Hid (∀ T, Calls Try.prog 76 #[.slice (some ⟨w1.heap.size, 0, none⟩) 2 2] (w1.alloc (.cells #[.slice A m c, .slice B k d] T)).drew (GotInts (w1.alloc (.cells #[.slice A m c, .slice B k d] T)).drew zs)) := fun T =>
      HC.out _ w1.heap.size (E0.alloc _).drew (by rw [World.cell?_drew, World.cell?_alloc_at _ _ _ _ rfl]; rfl) (by rw [World.cell?_drew, World.cell?_alloc_at _ _ _ _ rfl]; rfl)
    go_wp2_with fail
    go_region_held3 (fun w' => w'.cell? ⟨w.heap.size, 0, none⟩ = some (.int .i64 (T : Nat)) ∧ w'.cell? ⟨w.heap.size, 1, none⟩ = some (.slice A m c) ∧ w'.cell? ⟨w.heap.size + 1, 1, none⟩ = some (.slice B k d) ∧ PairAt w w' (T : Nat) A m c nx (T : Nat) B k d mx) (first | exact D1 | exact D3 | exact D4 | exact E4.1.stored _ _ | exact (E0.alloc _).drew.1.cells | exact (E0.alloc _).1.cells | exact (E1.alloc _).1.cells) (first
      | (go_simp; go_at_call 59; (with_reducible refine (HF.out _ _ _ own3.ints).mono ?_); rintro e4 w4 ⟨A4, c4, rfl, own4, hb4⟩; have E4 := E3.next hb4; have D4 := E4.1.cells; obtain ⟨⟨f0, f1, g0, g1, -, -, fb, -⟩, q0, q1, r0, r1, lt⟩ := id E4; have lt3 := E3.2.2.2.2.2)
      | (go_simp; go_at_call 76; (with_reducible refine (HC2.out _).mono ?_); rintro e3 w3 ⟨A3, c3, rfl, own3, hb3⟩; have E3 := (E0.alloc _).drew.next hb3; have D3 := E3.1.cells))
    all_goals
      have hge := own4.ge
      go_wp2_with fail
      refine bodyPost_ret (v := .tuple #[.agg #[.int .i64 (T : Nat), .slice A4 R.length c4], .bool true]) (by simp [results, Try.results28, go_sem, *]) rfl ?_
      refine ⟨A4, c4, rfl, OwnI.far (OwnI.far (own4.more (by omega)) ?_ _) ?_ _, (fb.setCell (p := ⟨w.heap.size + 2, 0, none⟩) (by simp) _).setCell (p := ⟨w.heap.size + 2, 1, none⟩) (by simp) _⟩
      · intro k hk; have := hge k hk; simp; omega
      · intro k hk; have := hge k hk; simp; omega
end Go.Proofs.Ytmdmmebekicpkaa
