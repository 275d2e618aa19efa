/- Chapter 11 of the program: ByStates. -/
import Derived.Test.YtdacfeebidhgnaaImpl11b
namespace Go.Proofs.Ytdacfeebidhgnaa
open Go.RowKit
set_option maxRecDepth 100000

theorem argAlloc {w u : World} {n : Int} {A : Option Addr} {cap : Nat} {es : List (Int × Int)} (h : ArgNet w u n A cap es) (o : Obj) : ArgNet w (u.alloc o) n A cap es := h.on _ ((Below.refl u.heap.size u).alloc (Nat.le_refl _) o)
theorem argPut {w u : World} {n : Int} {A : Option Addr} {cap : Nat} {es : List (Int × Int)} (h : ArgNet w u n A cap es) {g : Nat} (hg : w.heap.size < g) (v : Value) : ArgNet w (u.setCell ⟨g, 0, none⟩ v) n A cap es :=
  h.step ((Below.refl (w.heap.size + 1) u).setCell (by simp; omega) v) (by omega)
/-- The net, and a number in a box. -/
def InR (w : World) (n : Int) (A : Option Addr) (cap : Nat) (es : List (Int × Int)) (g8 : Nat) (M : Nat) (X : World) : Prop :=
  X.cell? ⟨w.heap.size, 1, none⟩ = some (.slice A es.length cap) ∧ X.cell? ⟨g8, 0, none⟩ = some (.int .i64 (M : Nat)) ∧ ArgNet w X n A cap es ∧ w.heap.size < g8 ∧ g8 < X.heap.size
section
variable {w X u : World} {n : Int} {A : Option Addr} {cap : Nat} {es : List (Int × Int)} {g8 M : Nat}
theorem InR.call (h : InR w n A cap es g8 M X) (hb : Below X.heap.size X u) : InR w n A cap es g8 M u :=
  ⟨(h.2.2.1.on _ hb).c1, (hb.cell (p := ⟨g8, 0, none⟩) h.2.2.2.2).trans h.2.1, h.2.2.1.on _ hb, h.2.2.2.1, Nat.lt_of_lt_of_le h.2.2.2.2 hb.size⟩
theorem InR.alloc (h : InR w n A cap es g8 M X) (o : Obj) : InR w n A cap es g8 M (X.alloc o) := h.call ((Below.refl _ _).alloc (Nat.le_refl _) o)
theorem InR.drew (h : InR w n A cap es g8 M X) : InR w n A cap es g8 M X.drew := h.call ((Below.refl _ _).drew)
theorem InR.set (h : InR w n A cap es g8 M X) {g : Nat} (hg : g8 < g) (v : Value) : InR w n A cap es g8 M (X.setCell ⟨g, 0, none⟩ v) :=
  ⟨(argPut h.2.2.1 (by have := h.2.2.2.1; omega) v).c1, (World.cell?_setCell_far _ _ _ _ (by simp; omega)).trans h.2.1, argPut h.2.2.1 (by have := h.2.2.2.1; omega) v, h.2.2.2.1, by have := h.2.2.2.2; simp; omega⟩
theorem InR.new (D : ArgNet w u n A cap es) (ty : TypeId) : InR w n A cap es u.heap.size M (u.alloc (.cells #[.int .i64 (M : Nat)] ty)) :=
  ⟨(argAlloc D _).c1, by rw [World.cell?_alloc_at _ _ _ _ rfl]; rfl, argAlloc D _, D.lt, by simp⟩
theorem InR.put (D : ArgNet w u n A cap es) {v : Value} (hg : w.heap.size < g8) (hc : u.cell? ⟨g8, 0, none⟩ = some v) (hl : g8 < u.heap.size) : InR w n A cap es g8 M (u.setCell ⟨g8, 0, none⟩ (.int .i64 (M : Nat))) :=
  ⟨(argPut D hg _).c1, World.cell?_setCell_same' _ _ _ (by rw [hc]; rfl), argPut D hg _, hg, by simp; omega⟩
end
/-- Two rows in boxes of their own. -/
def TwoRows (wx : World) (g9 : Nat) (xs : List Int) (g10 : Nat) (ys : List Int) : Prop := ∃ b9 d9 b10 d10 : Nat,
  (wx.cell? ⟨g9, 0, none⟩ = some (.slice (some ⟨b9, 0, none⟩) xs.length d9) ∧ IntsIn wx wx.heap.size (some ⟨b9, 0, none⟩) xs ∧ g9 < wx.heap.size) ∧
  (wx.cell? ⟨g10, 0, none⟩ = some (.slice (some ⟨b10, 0, none⟩) ys.length d10) ∧ IntsIn wx wx.heap.size (some ⟨b10, 0, none⟩) ys ∧ g10 < wx.heap.size)

set_option maxHeartbeats 8000000 in
theorem byStates_any (n x y : Int) (A : Option Addr) (cap : Nat) (es : List (Int × Int)) (w : World) (hes : EdgesIn w w.heap.size A es) (hl : es.length ≤ 1048576) :
    Calls Try.prog 29 #[.agg #[.int .i64 n, .slice A es.length cap], .int .i64 x, .int .i64 y] w fun e w' => e = .returned (.tuple #[.int .i64 (valI n es x y), .bool (roadOkB n es x y)]) ∧ Below w.heap.size w w' := by
  have hmf : ∀ (fn : Fn) (first cap : Array Value) (w : World), (Instr.makeFunc fn first cap).run Try.prog w = .ok (.func fn first cap) w := fun _ _ _ _ => rfl
  have L0 := ArgNet.start (cap := cap) (n := n) 29 hes
  have HN : Hid (∀ u, ArgNet w u n A cap es → Calls Try.prog 81 #[.agg #[.int .i64 n, .slice A es.length cap], .int .i64 x, .int .i64 y] u fun e w' => e = .returned (.bool (roadOkB n es x y)) ∧ Below u.heap.size u w') := fun u h => roadsOk_any n x y A cap es u h.edges hl
  obtain ⟨_, _, c0, c1, s0⟩ := id L0
  cases hok : roadOkB n es x y with
  | false =>
    have HV := Lib.hid (road_not hok)
    rw [HV.out]
    rw [hok] at HN
    clear hes hok
    go_enter Try.func29, Try.ntmps29
    go_wp2_with fail
    refine (HN.out _ L0).mono ?_
    rintro e1 w1 ⟨rfl, hb1⟩
    have L1 := L0.on _ hb1
    go_wp2_with fail
    go_returns
    exact ⟨by first | rfl | simp, L1.below⟩
  | true =>
    obtain ⟨hn, hx, hy⟩ : netOkB n es = true ∧ inFour x = true ∧ inFour y = true := by
      unfold roadOkB at hok
      simp only [Bool.and_eq_true] at hok
      exact hok
    have h9 := (netOkB_iff.1 hn).2.1
    have hM5 := rkN_small hn
    obtain ⟨hx1, hx2⟩ := inFour_iff.1 hx
    obtain ⟨hy1, hy2⟩ := inFour_iff.1 hy
    have HV : Hid (valI n es x y = sumS (valT n es x y) (2 ^ es.length)) := by unfold Hid valI; rw [if_pos hok, val_states hn]
    have HSC : Hid (∀ u, ArgNet w u n A cap es → Calls Try.prog 82 #[.agg #[.int .i64 n, .slice A es.length cap]] u fun e w' => e = .returned (.int .i64 (2 ^ es.length : Nat)) ∧ Below u.heap.size u w') := fun u h => stateCount_any n A cap es u h9
    have HRK : Hid (∀ u, ArgNet w u n A cap es → Calls Try.prog 54 #[.agg #[.int .i64 n, .slice A es.length cap], .int .i64 (2 ^ es.length - 1 : Nat)] u fun e w' => e = .returned (.int .i64 (rkN es : Nat)) ∧ Below u.heap.size u w') := fun u h => by
      rw [← rankI_top hn]; exact rankOf_any n _ A cap es u h.edges hl
    have hP5 : 2 ^ es.length ≤ 512 := Nat.pow_le_pow_right (n := 2) (by decide) h9
    have HSUM : Hid (∀ (u : World) (g8 g9 b9 d9 g10 b10 d10 : Nat), RoadAt w u n A cap es g8 (rkN es) g9 b9 d9 (pwI (x - 1) (rkN es)) g10 b10 d10 (pwI (y - 1) es.length) → Calls Try.prog 84 #[.int .i64 (2 ^ es.length : Nat), .func (.func 85) #[] #[.pointer (some ⟨w.heap.size, 0, none⟩), .pointer (some ⟨g9, 0, none⟩), .pointer (some ⟨g8, 0, none⟩), .pointer (some ⟨g10, 0, none⟩)]] u fun e w' => e = .returned (.int .i64 (sumS (valT n es x y) (2 ^ es.length))) ∧ Below u.heap.size u w') := fun u g8 g9 b9 d9 g10 b10 d10 h =>
      sumOverG_any 85 #[.pointer (some ⟨w.heap.size, 0, none⟩), .pointer (some ⟨g9, 0, none⟩), .pointer (some ⟨g8, 0, none⟩), .pointer (some ⟨g10, 0, none⟩)] (valT n es x y) _ u hP5 (fun k hk => valT_bound hn hx hy hk) (fun _ _ => rfl) (fun v hv k hk => stateOne_any n x y A cap g8 g9 b9 d9 g10 b10 d10 es k w v hn hx hy hk (h.on _ hv))
    have HX : Hid (∀ u, Calls Try.prog 83 #[.int .i64 (x - 1), .int .i64 (rkN es : Nat)] u (GotInts u (pwI (x - 1) (rkN es)))) := fun u => powersF_any (x - 1) _ (by omega) (by omega) (by omega) u
    have HY : Hid (∀ u, Calls Try.prog 83 #[.int .i64 (y - 1), .int .i64 (es.length : Nat)] u (GotInts u (pwI (y - 1) es.length))) := fun u => powersF_any (y - 1) _ (by omega) (by omega) h9 u
    have lx := pwI_length (x - 1) (rkN es)
    have ly := pwI_length (y - 1) es.length
    have wx : IntKind.i64.wrap (x - 1) = x - 1 := IntWalk.i64_in _ (by omega)
    have wy : IntKind.i64.wrap (y - 1) = y - 1 := IntWalk.i64_in _ (by omega)
    obtain ⟨xs, hxs⟩ : ∃ xs, pwI (x - 1) (rkN es) = xs := ⟨_, rfl⟩
    obtain ⟨ys, hys⟩ : ∃ ys, pwI (y - 1) es.length = ys := ⟨_, rfl⟩
    rw [hxs] at HX HSUM lx
    rw [hys] at HY HSUM ly
    have hp1 : 1 ≤ 2 ^ es.length := Nat.one_le_two_pow
    obtain ⟨P, hP⟩ : ∃ P, 2 ^ es.length = P := ⟨_, rfl⟩
    obtain ⟨Q, hQ⟩ : ∃ Q, P - 1 = Q := ⟨_, rfl⟩
    rw [hP] at HSC HRK HSUM hP5 hp1 HV
    rw [hQ] at HRK
    have wq := wrap_pred hQ hp1 hP5
    have px : 0 < xs.length := by omega
    have py : 0 < ys.length := by omega
    rw [HV.out]
    rw [hok] at HN
    clear hes hok hn hx hy hx1 hx2 hy1 hy2 hxs hys hP hQ HV lx ly h9 hl hP5 hp1
    generalize sumS (valT n es x y) P = Z at *
    generalize rkN es = M at *
    go_enter Try.func29, Try.ntmps29
    go_wp2_with fail
    refine (HN.out _ L0).mono ?_
    rintro e1 w1 ⟨rfl, hb1⟩
    have D2 := L0.on _ hb1
    clear c0 c1 s0 L0 hb1 HN
    have c0 := D2.c0
    have c1 := D2.c1
    have s2 := D2.lt
    go_upto_region 3 with fail
    go_cut [8] (fun p wx => ∃ g : Nat, p = .pointer (some ⟨g, 0, none⟩) ∧ InR w n A cap es g M wx)
    case first =>
      have D_d := D2.drew
      have D_D := (argAlloc D2 (.cells #[.int .i64 0] 3)).drew
      have Z_D := cel_on ((Below.refl _ _).drew) (cel_new w1 (.int .i64 0) 3).1 (cel_new w1 (.int .i64 0) 3).2.1 (cel_new w1 (.int .i64 0) 3).2.2
      have n0 : w.heap.size ≠ w1.heap.size := by omega
      go_wp2_with fail
      go_region_held3 (fun w' => w'.cell? ⟨w.heap.size, 0, none⟩ = some (.int .i64 n) ∧ w'.cell? ⟨w.heap.size, 1, none⟩ = some (.slice A es.length cap)) (first | go_keep | exact ⟨D_a.c0, D_a.c1⟩ | exact ⟨D_b.c0, D_b.c1⟩ | exact ⟨(argPut D_b (by omega) _).c0, (argPut D_b (by omega) _).c1⟩) (first
        | (go_simp; go_at_call 54; (with_reducible refine (HRK.out _ D_a).mono ?_); rintro eb wb ⟨rfl, hbb⟩; have D_b := D_a.on _ hbb; have v0 := D_b.c0; have v1 := D_b.c1; have hwb := D_b.lt; have szb := hbb.size; (try have Z_b := cel_on hbb Z_a.1 Z_a.2.1 Z_a.2.2); (try have zb1 := Z_b.1); (try have zb2 := Z_b.2.1))
        | (go_simp; go_at_call 54; (with_reducible refine (HRK.out _ (argAlloc D_a (.cells #[.int .i64 0] 3))).mono ?_); rintro eb wb ⟨rfl, hbb⟩; have D_b := (argAlloc D_a (.cells #[.int .i64 0] 3)).on _ hbb; have v0 := D_b.c0; have v1 := D_b.c1; have hwb := D_b.lt; have szb := hbb.size; have Z_b := cel_one hbb; have zb1 := Z_b.1; have zb2 := Z_b.2.1)
        | (go_simp; go_at_call 82; (with_reducible refine (HSC.out _ D_d).mono ?_); rintro ea wa ⟨rfl, hba⟩; have D_a := D_d.on _ hba; have u0 := D_a.c0; have u1 := D_a.c1; have hwa := D_a.lt; have sza := hba.size)
        | (go_simp; go_at_call 82; (with_reducible refine (HSC.out _ D_D).mono ?_); rintro ea wa ⟨rfl, hba⟩; have D_a := D_D.on _ hba; have u0 := D_a.c0; have u1 := D_a.c1; have hwa := D_a.lt; have sza := hba.size; have Z_a := cel_on hba Z_D.1 Z_D.2.1 Z_D.2.2; have za1 := Z_a.1; have za2 := Z_a.2.1))
      all_goals
        go_wp2_with fail
        go_meet
        first
          | exact ⟨_, rfl, InR.new D_b _⟩
          | exact ⟨_, rfl, InR.put D_b (by omega) Z_b.1 Z_b.2.2⟩
    case rest =>
      clear D2 c0 c1 s2 HRK wq
      obtain ⟨g8, rfl, S0⟩ := hcut
      have c1 := S0.1
      have c8 := S0.2.1
      have l8 := S0.2.2.2.2
      have l0 := S0.2.2.2.1
      have S0d := S0.drew
      go_upto_region 4 with fail
      go_cut [9, 10] (fun p q wx => ∃ g9 g10 : Nat, p = .pointer (some ⟨g9, 0, none⟩) ∧ q = .pointer (some ⟨g10, 0, none⟩) ∧ InR w n A cap es g8 M wx ∧ TwoRows wx g9 xs g10 ys)
      case first =>
        go_wp2_with fail
        go_region_held3 (fun w' => w'.cell? ⟨w.heap.size, 1, none⟩ = some (.slice A es.length cap) ∧ w'.cell? ⟨g8, 0, none⟩ = some (.int .i64 (M : Nat)) ∧ ArgNet w w' n A cap es ∧ w.heap.size < g8 ∧ g8 < w'.heap.size) (first
          | exact S0d
          | exact S1
          | exact S2
          | (solve | (repeat' (first | assumption | refine InR.alloc ?_ _ | refine InR.drew ?_ | refine InR.set ?_ (by (try simp only [World.size_alloc, World.size_setCell, World.size_drew]); omega) _)))) (first
          | (go_simp; go_at_call 83; (with_reducible refine (HY.out _).mono ?_); rintro e2 w2 ⟨A2, c2, rfl, own2, hb2⟩; (try replace hb2 := undrew hb2); have S2 := InR.call (w := w) (n := n) (A := A) (cap := cap) (es := es) (g8 := g8) (M := M) (by (repeat' (first | assumption | refine InR.alloc ?_ _))) hb2; obtain ⟨b2, rfl, ge2, lt2⟩ := pow_row own2 (by omega); have sz2 := hb2.size; (try simp only [World.size_alloc] at ge2 sz2); (first | (have FF := cel_two hb2; obtain ⟨⟨q1, q2, q3⟩, q4, q5, q6⟩ := FF) | (have FF := cel_one hb2; obtain ⟨q1, q2, q3⟩ := FF; try (have FF := cel_past hb2 p1 p2 p3; obtain ⟨q4, q5, q6⟩ := FF)) | ((try (have FF := cel_on hb2 p1 p2 p3; obtain ⟨q1, q2, q3⟩ := FF)); (try (have FF := cel_on hb2 p4 p5 p6; obtain ⟨q4, q5, q6⟩ := FF)))))
          | (go_simp; go_at_call 83; (with_reducible refine (HX.out _).mono ?_); rintro e1 w3 ⟨A1, c3, rfl, own1, hb1⟩; (try replace hb1 := undrew hb1); have S1 := InR.call (w := w) (n := n) (A := A) (cap := cap) (es := es) (g8 := g8) (M := M) (by (repeat' (first | assumption | refine InR.alloc ?_ _))) hb1; obtain ⟨b1, rfl, ge1, lt1⟩ := pow_row own1 (by omega); have sz1 := hb1.size; (try simp only [World.size_alloc, World.size_drew] at ge1 sz1); (first | (have FF := cel_two hb1; obtain ⟨⟨p1, p2, p3⟩, p4, p5, p6⟩ := FF; (try simp only [World.size_alloc] at p1 p2 p3 p4 p5 p6)) | (have FF := cel_one hb1; obtain ⟨p1, p2, p3⟩ := FF; (try simp only [World.size_drew, World.size_alloc] at p1 p2 p3)) | skip)))
        all_goals
          rename_i hH
          go_wp2_with fail
          go_meet
          refine ⟨_, _, rfl, rfl, hH, b1, c3, b2, c2, ⟨?_, ?_, ?_⟩, ?_, ?_, ?_⟩
          · go_simp
          · refine (OwnI.held own1 ?_).ints
            repeat (first | rfl | refine (Below.heap_setCell _ _ _ _ (by first | omega | (simp; done) | (simp; omega))).trans ?_ | refine (alloc_block (by first | omega | (simp; done) | (simp; omega))).trans ?_ | refine (hb2.block _ (by first | omega | (simp; done) | (simp; omega))).trans ?_)
          · first | assumption | omega | (simp; done) | (simp; omega)
          · go_simp
          · refine (OwnI.held own2 ?_).ints
            repeat (first | rfl | refine (Below.heap_setCell _ _ _ _ (by first | omega | (simp; done) | (simp; omega))).trans ?_ | refine (alloc_block (by first | omega | (simp; done) | (simp; omega))).trans ?_)
          · first | assumption | omega | (simp; done) | (simp; omega)
      case rest =>
        clear S0 S0d c1 c8 l8
        obtain ⟨g9, g10, rfl, rfl, S9, b9, d9, b10, d10, R9, R10⟩ := hcut
        have D9 : RoadAt w _ n A cap es g8 M g9 b9 d9 xs g10 b10 d10 ys := ⟨S9.2.2.1, ⟨S9.2.1, S9.2.2.2.2⟩, R9, R10⟩
        clear S9 R9 R10 HX HY wx wy
        have c0 := D9.1.c0
        have c1 := D9.1.c1
        go_wp2_with fail
        refine (HSC.out _ D9.1).mono ?_
        rintro e4 w4 ⟨rfl, hb4⟩
        have D4 := D9.on _ hb4
        clear D9 hb4 c0 c1
        go_wp2_with fail
        refine (HSUM.out _ _ _ _ _ _ _ _ D4).mono ?_
        rintro e5 w5 ⟨rfl, hb5⟩
        have D5 := D4.on _ hb5
        go_wp2_with fail
        go_returns
        exact ⟨by first | rfl | simp, D5.1.below⟩
end Go.Proofs.Ytdacfeebidhgnaa
