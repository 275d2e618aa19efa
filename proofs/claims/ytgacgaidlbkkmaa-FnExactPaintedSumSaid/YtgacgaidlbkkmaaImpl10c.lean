/- Chapter 10 of the program: PaintedSum, arrows, CountNoBack. -/
import Derived.Test.YtgacgaidlbkkmaaImpl10b
import Derived.Test.YtgacgaidlbkkmaaImpl2
import Derived.Test.YtgacgaidlbkkmaaBack
import Derived.Deep.RegionHeld3
namespace Go.Proofs.Ytgacgaidlbkkmaa
open Go.RowKit
set_option maxRecDepth 100000

theorem sumS_next (f : Nat → Int) (k : Nat) : sumS f (k + 1) = sumS f k + f k := rfl
set_option maxHeartbeats 2000000 in
/-- The program's sum by a function's value. -/
theorem sumOverS_any (F : FuncId) (caps : Array Value) (f : Nat → Int) (m : Nat) (u : World) (hm : m ≤ 512) (hf : ∀ k, k < m → -4096 ≤ f k ∧ f k ≤ 4096)
    (hF : ∀ (args : Array Value) (u : World), (callFunc F args).run Try.prog u = .ok (.enter F args) u)
    (HK : ∀ v, Below u.heap.size u v → ∀ k : Nat, k < m → Calls Try.prog F (#[.int .i64 k] ++ caps) v fun e w' => e = .returned (.int .i64 (f k)) ∧ Below v.heap.size v w') :
    Calls Try.prog 52 #[.int .i64 m, .func (.func F) #[] caps] u fun e w' => e = .returned (.int .i64 (sumS f m)) ∧ Below u.heap.size u w' := by
  have HFB := Lib.hid hf
  have HC := Lib.hid HK
  clear hf HK
  go_enter Try.func52, Try.ntmps52
  go_wp2_with fail
  go_loopw [5, 6, 8] (fun v _ t wr => ∃ k : Nat, k ≤ m ∧ t = .int .i64 (k : Nat) ∧ v = .int .i64 (sumS f k) ∧ Below u.heap.size u wr) (fun _ _ t _ => m - (intOf t).toNat)
  case atStart => exact ⟨0, by omega, rfl, rfl, Below.refl _ _⟩
  case round =>
    obtain ⟨k, hk, rfl, rfl, hb⟩ := hrel
    by_cases hlt : k < m
    · have z1 := sumS_smallP HFB.out (show k ≤ m by omega) hm
      have z2 := HFB.out k hlt
      have hcall := HC.out _ hb k hlt
      obtain ⟨x, hx⟩ : ∃ x, sumS f (k + 1) = x := ⟨_, rfl⟩
      obtain ⟨wz1, wz2⟩ := sum_both (hx.symm.trans (sumS_next f k)) z1 z2
      have HX := Lib.hid hx
      clear hx
      generalize sumS f k = y at *
      generalize f k = z at *
      go_wp2_with fail
      refine hcall.mono ?_
      clear hcall
      rintro e1 w1 ⟨rfl, hb1⟩
      have hb2 := hb.trans (hb1.mono hb.size)
      go_wp2_with fail
      go_roundw
      case rel => exact ⟨k + 1, by omega, by go_num, by rw [HX.out], hb2⟩
      case measure => simp [intOf]; omega
    · obtain rfl : k = m := by omega
      go_wp2_with fail
      go_returns
      exact ⟨rfl, hb⟩

/-- The boxes of PaintedSum: the net, and a row of powers. -/
def PowAt (w u : World) (n : Int) (A : Option Addr) (cap : Nat) (es : List (Int × Int)) (g : Nat) (b : Nat) (l d : Nat) (xs : List Int) : Prop :=
  ArgNet w u n A cap es ∧ u.cell? ⟨g, 0, none⟩ = some (.slice (some ⟨b, 0, none⟩) l d) ∧ IntsIn u u.heap.size (some ⟨b, 0, none⟩) xs ∧ g < u.heap.size
section
variable {w u : World} {n : Int} {A : Option Addr} {cap g b l d : Nat} {es : List (Int × Int)} {xs : List Int}
theorem PowAt.on (h : PowAt w u n A cap es g b l d xs) : ∀ u', Below u.heap.size u u' → PowAt w u' n A cap es g b l d xs := fun _ hb =>
  ⟨h.1.on _ hb, (hb.cell h.2.2.2).trans h.2.1, (h.2.2.1.below hb (Nat.le_refl _)).more hb.size, Nat.lt_of_lt_of_le h.2.2.2 hb.size⟩
theorem PowAt.drew (h : PowAt w u n A cap es g b l d xs) : PowAt w u.drew n A cap es g b l d xs := h.on _ ((Below.refl _ _).drew)
end
/-- The boxes, in a world behind a given one. -/
def PowIn (w u v : World) (n : Int) (A : Option Addr) (cap : Nat) (es : List (Int × Int)) (g : Nat) (b : Nat) (l d : Nat) (xs : List Int) : Prop := PowAt w v n A cap es g b l d xs ∧ Below u.heap.size u v
theorem PowIn.on {w u v : World} {n : Int} {A : Option Addr} {cap g b l d : Nat} {es : List (Int × Int)} {xs : List Int} (h : PowIn w u v n A cap es g b l d xs) : ∀ v', Below v.heap.size v v' → PowIn w u v' n A cap es g b l d xs := fun _ hb => ⟨h.1.on _ hb, h.2.trans (hb.mono h.2.size)⟩
theorem thereI_pop {n : Int} {es : List (Int × Int)} {s : Int} (h : stateOkB n es s = true) : thereI n es s = ((pop s.toNat : Nat) : Int) := by unfold thereI; rw [h, if_pos rfl]
theorem piecesI_cast {n : Int} {es : List (Int × Int)} {s : Int} (h : stateOkB n es s = true) : piecesI n es s = ((piecesB n es s : Nat) : Int) := (piecesI_lt h).1

set_option maxHeartbeats 4000000 in
theorem paintOne_any (x : Int) (m : Nat) (A : Option Addr) (cap g b d : Nat) (es : List (Int × Int)) (s : Nat) (w u : World) (hl : es.length ≤ 1048576) (hs : stateOkB m es s = true) (h1 : -4 ≤ x) (h2 : x ≤ 4) (D : PowAt w u m A cap es g b (m + 1) d (pwI x m)) :
    Calls Try.prog 54 #[.int .i64 s, .pointer (some ⟨w.heap.size, 0, none⟩), .pointer (some ⟨g, 0, none⟩)] u fun e w' => e = .returned (.int .i64 (paintT m es x s)) ∧ Below u.heap.size u w' := by
  have h9 := stateOkB_lt hs
  have hp6 := pieces_six hs
  have hpm : piecesB m es s ≤ m := by
    have : piecesB m es s ≤ (m : Int).toNat := pcs_le _ _ _ _
    omega
  have HT : Hid (∀ v, PowIn w u v m A cap es g b (m + 1) d (pwI x m) → Calls Try.prog 56 #[.agg #[.int .i64 (m : Nat), .slice A es.length cap], .int .i64 s] v fun e w' => e = .returned (.int .i64 (pop s : Nat)) ∧ Below v.heap.size v w') := fun v h => by
    have := thereOf_any m s A cap es v h.1.1.edges hl
    rwa [thereI_pop hs, Int.toNat_natCast] at this
  have HP : Hid (∀ v, PowIn w u v m A cap es g b (m + 1) d (pwI x m) → Calls Try.prog 36 #[.agg #[.int .i64 (m : Nat), .slice A es.length cap], .int .i64 s] v fun e w' => e = .returned (.int .i64 (piecesB m es s : Nat)) ∧ Below v.heap.size v w') := fun v h => by
    have := piecesIn_any m s A cap es v h.1.1.edges hl
    rwa [piecesI_cast hs] at this
  have hYb := pow6_bound h1 h2 hp6
  have HY : Hid (∀ v, PowAt w v m A cap es g b (m + 1) d (pwI x m) → v.cell? ⟨b, 0 + piecesB m es s, none⟩ = some (.int .i64 (x ^ piecesB m es s))) := fun v h => (h.2.2.1.at' (pwI_get x m hpm)).1
  have hV : sgn (pop s) (x ^ piecesB m es s) = paintT m es x s := rfl
  have HS : Hid (∀ v, Calls Try.prog 55 #[.int .i64 (pop s : Nat), .int .i64 (x ^ piecesB m es s)] v fun e w' => e = .returned (.int .i64 (paintT m es x s)) ∧ v = w') := fun v => signed_is _ _ _ hV (by omega) v
  generalize paintT m es x s = z at *
  generalize x ^ piecesB m es s = Y at *
  generalize piecesB m es s = pb at *
  generalize pop s = t at *
  clear hV hs hp6
  go_enter Try.func54, Try.ntmps54
  go_wp2_with fail
  refine wp_region_class (fun v => PowIn w u v m A cap es g b (m + 1) d (pwI x m)) (by kernel_rfl) (by kernel_rfl) ⟨D.drew, (Below.refl _ _).drew⟩ ?_
  intro X hX f hf hex
  have c0 : ∀ x, (f x).cell? ⟨w.heap.size, 0, none⟩ = some (.int .i64 (m : Nat)) := fun x => (hf x).1.1.c0
  have c1 : ∀ x, (f x).cell? ⟨w.heap.size, 1, none⟩ = some (.slice A es.length cap) := fun x => (hf x).1.1.c1
  have c2 : ∀ x, (f x).cell? ⟨g, 0, none⟩ = some (.slice (some ⟨b, 0, none⟩) (m + 1) d) := fun x => (hf x).1.2.1
  have c3 : ∀ x, (f x).cell? ⟨b, pb, none⟩ = some (.int .i64 Y) := fun x => by have := HY.out _ (hf x).1; rwa [Nat.zero_add] at this
  have ipm : (pb : Int) < (m : Int) + 1 := by omega
  repeat (go_big_quiet_step (first | (go_at_call 56; with_reducible exact class_of hex (HT.out _ (hf _)) (hf _).on) | (go_at_call 36; with_reducible exact class_of hex (HP.out _ (hf _)) (hf _).on) | (go_at_call 55; with_reducible exact class_same (HS.out _))))
  refine wpQuiet_nil ?_
  rintro _ ⟨x, rfl⟩
  have F := (hf x).2
  go_wp2_with fail
  go_returns
  exact ⟨by first | rfl | simp, F⟩

set_option maxHeartbeats 4000000 in
theorem paintedSum_any (n x : Int) (A : Option Addr) (cap : Nat) (es : List (Int × Int)) (w : World) (hes : EdgesIn w w.heap.size A es) (hl : es.length ≤ 1048576) :
    Calls Try.prog 19 #[.agg #[.int .i64 n, .slice A es.length cap], .int .i64 x] w fun e w' => e = .returned (.tuple #[.int .i64 (paintSumI n es x), .bool (sumOkB n es x)]) ∧ Below w.heap.size w w' := by
  have hmf : ∀ (fn : Fn) (first cap : Array Value) (w : World), (Instr.makeFunc fn first cap).run Try.prog w = .ok (.func fn first cap) w := fun _ _ _ _ => rfl
  have L0 := ArgNet.start (cap := cap) (n := n) 25 hes
  have HN : Hid (∀ u, ArgNet w u n A cap es → Calls Try.prog 31 #[.agg #[.int .i64 n, .slice A es.length cap]] u fun e w' => e = .returned (.bool (netOkB n es)) ∧ Below u.heap.size u w') := fun u h => netOk_any n A cap es u h.edges hl
  obtain ⟨_, _, c0, c1, s0⟩ := id L0
  cases hn : netOkB n es with
  | false =>
    have HO : Hid (sumOkB n es x = false) := by unfold Hid sumOkB; rw [hn]; rfl
    have HV : Hid (paintSumI n es x = 0) := if_neg (by rw [HO.out]; simp)
    rw [HV.out, HO.out]
    rw [hn] at HN
    clear hes
    go_enter Try.func19, Try.ntmps19
    go_wp2_with fail
    refine (HN.out _ L0).mono ?_
    rintro e1 w1 ⟨rfl, hb1⟩
    have L1 := L0.step hb1 L0.lt
    go_wp2_with fail
    go_returns
    exact ⟨by first | rfl | simp, L1.below⟩
  | true =>
    rw [hn] at HN
    by_cases hlo : x < -4
    · have HO : Hid (sumOkB n es x = false) := by unfold Hid sumOkB; rw [hn]; simp; omega
      have HV : Hid (paintSumI n es x = 0) := if_neg (by rw [HO.out]; simp)
      rw [HV.out, HO.out]
      clear hes
      go_enter Try.func19, Try.ntmps19
      go_wp2_with fail
      refine (HN.out _ L0).mono ?_
      rintro e1 w1 ⟨rfl, hb1⟩
      have L1 := L0.step hb1 L0.lt
      go_wp2_with fail
      go_returns
      exact ⟨by first | rfl | simp, L1.below⟩
    · by_cases hhi : 4 < x
      · have HO : Hid (sumOkB n es x = false) := by unfold Hid sumOkB; rw [hn]; simp; omega
        have HV : Hid (paintSumI n es x = 0) := if_neg (by rw [HO.out]; simp)
        rw [HV.out, HO.out]
        clear hes
        go_enter Try.func19, Try.ntmps19
        go_wp2_with fail
        refine (HN.out _ L0).mono ?_
        rintro e1 w1 ⟨rfl, hb1⟩
        have L1 := L0.step hb1 L0.lt
        go_wp2_with fail
        go_returns
        exact ⟨by first | rfl | simp, L1.below⟩
      · have h6 := (netOkB_iff.1 hn).1
        have h9 := (netOkB_iff.1 hn).2.1
        have hx1 : -4 ≤ x := by omega
        have hx2 : x ≤ 4 := by omega
        obtain ⟨m, rfl⟩ : ∃ m : Nat, n = m := ⟨n.toNat, by omega⟩
        have hm9 : m ≤ 9 := by omega
        have HO : Hid (sumOkB m es x = true) := by unfold Hid sumOkB; rw [hn]; simp; omega
        obtain ⟨P, hP, p1, p2, hp3, hp4⟩ := pow_named h9
        have HV : Hid (paintSumI m es x = sumS (paintT m es x) P) := by unfold Hid paintSumI; rw [if_pos HO.out, hP]
        have HST : Hid (∀ s : Nat, s < P → stateOkB m es s = true) := fun s hs => state_of hn (by rw [hP]; exact hs)
        have HB : Hid (∀ k, k < P → -4096 ≤ paintT m es x k ∧ paintT m es x k ≤ 4096) := fun k _ => paintT_bound hn hx1 hx2 k
        have HP : Hid (∀ u, Calls Try.prog 51 #[.int .i64 x, .int .i64 m] u (GotInts u (pwI x m))) := fun u => powersI_any x m hx1 hx2 hm9 u
        have HPL := Lib.hid (pwI_length x m)
        have HSC : Hid (∀ u, ArgNet w u m A cap es → Calls Try.prog 53 #[.agg #[.int .i64 (m : Nat), .slice A es.length cap]] u fun e w' => e = .returned (.int .i64 (P : Nat)) ∧ Below u.heap.size u w') := fun u h => by
          have := stateCount_any m A cap es u h9
          rw [hP] at this; exact this
        have HSUM : Hid (∀ (u : World) (g b d : Nat), PowAt w u m A cap es g b (m + 1) d (pwI x m) → Calls Try.prog 52 #[.int .i64 (P : Nat), .func (.func 54) #[] #[.pointer (some ⟨w.heap.size, 0, none⟩), .pointer (some ⟨g, 0, none⟩)]] u fun e w' => e = .returned (.int .i64 (sumS (paintT m es x) P)) ∧ Below u.heap.size u w') := fun u g b d h =>
          sumOverS_any 54 #[.pointer (some ⟨w.heap.size, 0, none⟩), .pointer (some ⟨g, 0, none⟩)] (paintT m es x) P u p2 HB.out (fun _ _ => rfl) (fun v hv k hk => paintOne_any x m A cap g b d es k w v hl (HST.out k hk) hx1 hx2 (h.on _ hv))
        rw [HV.out, HO.out]
        generalize sumS (paintT m es x) P = z at *
        clear hes hn hP h6 HV HST HB
        go_enter Try.func19, Try.ntmps19
        go_wp2_with fail
        refine (HN.out _ L0).mono ?_
        rintro e1 w1 ⟨rfl, hb1⟩
        have L1 := L0.step hb1 L0.lt
        clear c0 c1 s0
        obtain ⟨_, _, c0, c1, s0⟩ := id L1
        go_wp2_with fail
        refine (HP.out _).mono ?_
        rintro e2 w2 ⟨A2, d2, rfl, own2, hb2⟩
        obtain ⟨gb, rfl, hg1, hg2⟩ := pow_row own2 (by rw [HPL.out]; omega)
        rw [HPL.out] at own2 ⊢
        have L2 := L1.step hb2 L1.lt
        clear c0 c1 s0
        obtain ⟨_, _, c0, c1, s0⟩ := id L2
        have D2 : PowAt w (w2.alloc (.cells #[.slice (some ⟨gb, 0, none⟩) (m + 1) d2] 56)) m A cap es w2.heap.size gb (m + 1) d2 (pwI x m) :=
          ⟨L2.step ((Below.refl _ _).alloc (Nat.le_refl _) _) L2.lt, (cel_new w2 _ _).1, (own2.ints.alloc (Nat.le_refl _) _).more (by simp), by simp⟩
        obtain ⟨k1, k2, k3⟩ := cel_new w2 (.slice (some ⟨gb, 0, none⟩) (m + 1) d2) 56
        go_wp2_with fail
        refine (HSC.out _ D2.1).mono ?_
        rintro e3 w3 ⟨rfl, hb3⟩
        have D3 := D2.on _ hb3
        clear c0 c1 s0 k1 k2 k3
        obtain ⟨⟨_, _, c0, c1, s0⟩, k1, k2, k3⟩ := id D3
        go_wp2_with fail
        refine (HSUM.out _ _ _ _ D3).mono ?_
        rintro e4 w4 ⟨rfl, hb4⟩
        have D4 := D3.on _ hb4
        go_wp2_with fail
        go_returns
        exact ⟨by first | rfl | simp, D4.1.below⟩
end Go.Proofs.Ytgacgaidlbkkmaa
