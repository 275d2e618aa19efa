/- The draws of chapter 7: boards, cells, grids, edges. -/
import Derived.Test.YtcmomghlepmogaaDoorDraws
import Derived.Test.YtcmomghlepmogaaDoorSpec7d
namespace Go.Proofs.YtcmomghlepmogaaDoor
open Go.RowKit
set_option maxRecDepth 100000

theorem wrap64_small {N : Nat} (h : N ≤ 4096) : wrap64 (N : Int) = (N : Int) := by unfold wrap64; omega

def l20BoardGot (w : World) (rb : Nat) (B : Option Addr) (l cap p : Nat) (e : Ending) (w' : World) : Prop :=
  ∃ c r : Int, e = .returned (.tuple #[.int .i64 c, .int .i64 r]) ∧ 1 ≤ c ∧ c ≤ 5 ∧ 0 ≤ r ∧ r ≤ 3 ∧ Rd w' rb B l cap (p + 1 + 1 + 1 + 1) ∧ w.grownBy w' (some rb)
def l20GridGot (w : World) (rb : Nat) (B : Option Addr) (l cap p : Nat) (e : Ending) (w' : World) : Prop :=
  ∃ c r : Int, e = .returned (.tuple #[.int .i64 c, .int .i64 r]) ∧ 1 ≤ c ∧ c ≤ 5 ∧ 0 ≤ r ∧ r ≤ 3 ∧ Rd w' rb B l cap (p + 1 + 1 + 1 + 1) ∧ w.grownBy w' (some rb)
theorem l20Grid_any (rb : Nat) (B : Option Addr) (l cap p : Nat) (w : World) (h : Rd w rb B l cap p) (hp : p ≤ 950000) :
    Calls Tryd.prog 56 #[.pointer (some ⟨rb, 0, none⟩)] w (l20GridGot w rb B l cap p) := by
  go_enter Tryd.func56, Tryd.ntmps56
  go_wp2_with fail
  refine (pick_any _ _ _ _ _ _ _ h (by omega) (by omega)).mono ?_
  rintro e1 w1 ⟨x1, m1, rfl, a1, b1, -, rfl⟩
  have b1 := b1 (by omega)
  have H1 := h.next m1
  have G1 := readOn_grown w rb (p) m1
  have wa1 : IntKind.i64.wrap (2 + x1) = 2 + x1 := IntWalk.i64_in _ (by omega)
  generalize readOn w rb (p) m1 = v1 at *
  go_wp2_with fail
  refine (pick_any _ _ _ _ _ _ _ H1 (by omega) (by omega)).mono ?_
  rintro e2 w2 ⟨x2, m2, rfl, a2, b2, -, rfl⟩
  have b2 := b2 (by omega)
  have H2 := H1.next m2
  have G2 := grown_trans G1 (readOn_grown v1 rb (p + 1) m2)
  have q2t : x2.tdiv 39 = x2 / 39 := Int.tdiv_eq_ediv_of_nonneg a2
  have q2u : IntKind.i64.wrap (x2 / 39) = x2 / 39 := IntWalk.i64_in _ (by omega)
  have wa2 : IntKind.i64.wrap (2 + x1 + x2 / 39) = 2 + x1 + x2 / 39 := IntWalk.i64_in _ (by omega)
  generalize readOn v1 rb (p + 1) m2 = v2 at *
  go_wp2_with fail
  refine (pick_any _ _ _ _ _ _ _ H2 (by omega) (by omega)).mono ?_
  rintro e3 w3 ⟨x3, m3, rfl, a3, b3, -, rfl⟩
  have b3 := b3 (by omega)
  have H3 := H2.next m3
  have G3 := grown_trans G2 (readOn_grown v2 rb (p + 1 + 1) m3)
  have wa3 : IntKind.i64.wrap (1 + x3) = 1 + x3 := IntWalk.i64_in _ (by omega)
  generalize readOn v2 rb (p + 1 + 1) m3 = v3 at *
  go_wp2_with fail
  refine (pick_any _ _ _ _ _ _ _ H3 (by omega) (by omega)).mono ?_
  rintro e4 w4 ⟨x4, m4, rfl, a4, b4, -, rfl⟩
  have b4 := b4 (by omega)
  have H4 := H3.next m4
  have G4 := grown_trans G3 (readOn_grown v3 rb (p + 1 + 1 + 1) m4)
  have q4t : x4.tdiv 49 = x4 / 49 := Int.tdiv_eq_ediv_of_nonneg a4
  have q4u : IntKind.i64.wrap (x4 / 49) = x4 / 49 := IntWalk.i64_in _ (by omega)
  have wa4 : IntKind.i64.wrap (1 + x3 - x4 / 49) = 1 + x3 - x4 / 49 := IntWalk.i64_in _ (by omega)
  generalize readOn v3 rb (p + 1 + 1 + 1) m4 = v4 at *
  go_wp2_with fail
  refine bodyPost_ret (v := .tuple #[.int .i64 (2 + x1 + x2 / 39), .int .i64 (1 + x3 - x4 / 49)]) (by simp [results, Tryd.results56, go_sem, *]) rfl ?_
  exact ⟨_, _, rfl, by omega, by omega, by omega, by omega, H4, G4⟩

theorem drawCountDark_any (A : Option Addr) (l cap : Nat) (w : World) (hb : BytesIn w w.heap.size A l) (hl : l ≤ 1048576) (hc : l ≤ cap) :
    Calls Tryd.prog 28 #[.slice A l cap] w fun e w' => ∃ c r : Int, e = .returned (.tuple #[.int .i64 c, .int .i64 r]) ∧ 1 ≤ c ∧ c ≤ 7 ∧ 0 ≤ r ∧ r ≤ 3 ∧ Below w.heap.size w w' := by
  go_enter Tryd.func28, Tryd.ntmps28
  go_wp2_with fail
  refine (open_any _ _ _ _ hb hl hc).mono ?_
  rintro e0 w0 ⟨rb, B, l1, c1, rfl, H0, hge, G0⟩
  go_wp2_with fail
  refine (pick_any _ _ _ _ _ _ _ H0 (by omega) (by omega)).mono ?_
  rintro e1 w1 ⟨x1, m1, rfl, a1, b1, -, rfl⟩
  have b1 := b1 (by omega)
  have H1 := H0.next m1
  have G1 := G0.trans (below_of_grown (readOn_grown w0 rb (0) m1) G0.size hge)
  have wa1 : IntKind.i64.wrap (1 + x1) = 1 + x1 := IntWalk.i64_in _ (by omega)
  generalize readOn w0 rb (0) m1 = v1 at *
  go_wp2_with fail
  refine (pick_any _ _ _ _ _ _ _ H1 (by omega) (by omega)).mono ?_
  rintro e2 w2 ⟨x2, m2, rfl, a2, b2, -, rfl⟩
  have b2 := b2 (by omega)
  have H2 := H1.next m2
  have G2 := G1.trans (below_of_grown (readOn_grown v1 rb (0 + 1) m2) G1.size hge)
  have q2t : x2.tdiv 39 = x2 / 39 := Int.tdiv_eq_ediv_of_nonneg a2
  have q2u : IntKind.i64.wrap (x2 / 39) = x2 / 39 := IntWalk.i64_in _ (by omega)
  have wm2 : IntKind.i64.wrap (x2 / 39 * 4) = x2 / 39 * 4 := IntWalk.i64_in _ (by omega)
  have wa2 : IntKind.i64.wrap (1 + x1 + x2 / 39 * 4) = 1 + x1 + x2 / 39 * 4 := IntWalk.i64_in _ (by omega)
  generalize readOn v1 rb (0 + 1) m2 = v2 at *
  go_wp2_with fail
  refine (pick_any _ _ _ _ _ _ _ H2 (by omega) (by omega)).mono ?_
  rintro e3 w3 ⟨x3, m3, rfl, a3, b3, -, rfl⟩
  have b3 := b3 (by omega)
  have H3 := H2.next m3
  have G3 := G2.trans (below_of_grown (readOn_grown v2 rb (0 + 1 + 1) m3) G2.size hge)
  have wa3 : IntKind.i64.wrap (1 + x3) = 1 + x3 := IntWalk.i64_in _ (by omega)
  generalize readOn v2 rb (0 + 1 + 1) m3 = v3 at *
  go_wp2_with fail
  refine (pick_any _ _ _ _ _ _ _ H3 (by omega) (by omega)).mono ?_
  rintro e4 w4 ⟨x4, m4, rfl, a4, b4, -, rfl⟩
  have b4 := b4 (by omega)
  have H4 := H3.next m4
  have G4 := G3.trans (below_of_grown (readOn_grown v3 rb (0 + 1 + 1 + 1) m4) G3.size hge)
  have q4t : x4.tdiv 39 = x4 / 39 := Int.tdiv_eq_ediv_of_nonneg a4
  have q4u : IntKind.i64.wrap (x4 / 39) = x4 / 39 := IntWalk.i64_in _ (by omega)
  have wa4 : IntKind.i64.wrap (1 + x3 - x4 / 39) = 1 + x3 - x4 / 39 := IntWalk.i64_in _ (by omega)
  generalize readOn v3 rb (0 + 1 + 1 + 1) m4 = v4 at *
  go_wp2_with fail
  refine bodyPost_ret (v := .tuple #[.int .i64 (1 + x1 + x2 / 39 * 4), .int .i64 (1 + x3 - x4 / 39)]) (by simp [results, Tryd.results28, go_sem, *]) rfl ?_
  exact ⟨_, _, rfl, by omega, by omega, by omega, by omega, G4⟩

theorem drawCountLeads_any (A : Option Addr) (l cap : Nat) (w : World) (hb : BytesIn w w.heap.size A l) (hl : l ≤ 1048576) (hc : l ≤ cap) :
    Calls Tryd.prog 18 #[.slice A l cap] w fun e w' => ∃ c r : Int, e = .returned (.tuple #[.int .i64 c, .int .i64 r]) ∧ 2 ≤ c ∧ c ≤ 6 ∧ 0 ≤ r ∧ r ≤ 2 ∧ Below w.heap.size w w' := by
  go_enter Tryd.func18, Tryd.ntmps18
  go_wp2_with fail
  refine (open_any _ _ _ _ hb hl hc).mono ?_
  rintro e0 w0 ⟨rb, B, l1, c1, rfl, H0, hge, G0⟩
  go_wp2_with fail
  refine (pick_any _ _ _ _ _ _ _ H0 (by omega) (by omega)).mono ?_
  rintro e1 w1 ⟨x1, m1, rfl, a1, b1, -, rfl⟩
  have b1 := b1 (by omega)
  have H1 := H0.next m1
  have G1 := G0.trans (below_of_grown (readOn_grown w0 rb (0) m1) G0.size hge)
  have wa1 : IntKind.i64.wrap (2 + x1) = 2 + x1 := IntWalk.i64_in _ (by omega)
  generalize readOn w0 rb (0) m1 = v1 at *
  go_wp2_with fail
  refine (pick_any _ _ _ _ _ _ _ H1 (by omega) (by omega)).mono ?_
  rintro e2 w2 ⟨x2, m2, rfl, a2, b2, -, rfl⟩
  have b2 := b2 (by omega)
  have H2 := H1.next m2
  have G2 := G1.trans (below_of_grown (readOn_grown v1 rb (0 + 1) m2) G1.size hge)
  have q2t : x2.tdiv 39 = x2 / 39 := Int.tdiv_eq_ediv_of_nonneg a2
  have q2u : IntKind.i64.wrap (x2 / 39) = x2 / 39 := IntWalk.i64_in _ (by omega)
  have wm2 : IntKind.i64.wrap (x2 / 39 * 3) = x2 / 39 * 3 := IntWalk.i64_in _ (by omega)
  have wa2 : IntKind.i64.wrap (2 + x1 + x2 / 39 * 3) = 2 + x1 + x2 / 39 * 3 := IntWalk.i64_in _ (by omega)
  generalize readOn v1 rb (0 + 1) m2 = v2 at *
  go_wp2_with fail
  refine (pick_any _ _ _ _ _ _ _ H2 (by omega) (by omega)).mono ?_
  rintro e3 w3 ⟨x3, m3, rfl, a3, b3, -, rfl⟩
  have b3 := b3 (by omega)
  have H3 := H2.next m3
  have G3 := G2.trans (below_of_grown (readOn_grown v2 rb (0 + 1 + 1) m3) G2.size hge)
  have wa3 : IntKind.i64.wrap (1 + x3) = 1 + x3 := IntWalk.i64_in _ (by omega)
  generalize readOn v2 rb (0 + 1 + 1) m3 = v3 at *
  go_wp2_with fail
  refine (pick_any _ _ _ _ _ _ _ H3 (by omega) (by omega)).mono ?_
  rintro e4 w4 ⟨x4, m4, rfl, a4, b4, -, rfl⟩
  have b4 := b4 (by omega)
  have H4 := H3.next m4
  have G4 := G3.trans (below_of_grown (readOn_grown v3 rb (0 + 1 + 1 + 1) m4) G3.size hge)
  have q4t : x4.tdiv 39 = x4 / 39 := Int.tdiv_eq_ediv_of_nonneg a4
  have q4u : IntKind.i64.wrap (x4 / 39) = x4 / 39 := IntWalk.i64_in _ (by omega)
  have wa4 : IntKind.i64.wrap (1 + x3 - x4 / 39) = 1 + x3 - x4 / 39 := IntWalk.i64_in _ (by omega)
  generalize readOn v3 rb (0 + 1 + 1 + 1) m4 = v4 at *
  go_wp2_with fail
  refine bodyPost_ret (v := .tuple #[.int .i64 (2 + x1 + x2 / 39 * 3), .int .i64 (1 + x3 - x4 / 39)]) (by simp [results, Tryd.results18, go_sem, *]) rfl ?_
  exact ⟨_, _, rfl, by omega, by omega, by omega, by omega, G4⟩

def l20CellsGot (w : World) (rb : Nat) (B : Option Addr) (l cap : Nat) (e : Ending) (w' : World) : Prop :=
  ∃ (s c r : Int) (q : Nat), e = .returned (.tuple #[.int .i64 s, .int .i64 c, .int .i64 r]) ∧ -40000 ≤ s ∧ s ≤ 80000 ∧ 1 ≤ c ∧ c ≤ 5 ∧ 0 ≤ r ∧ r ≤ 3 ∧ Rd w' rb B l cap q ∧ w.grownBy w' (some rb)
theorem two_pow_step {Z k : Nat} {x : Int} (hZ : Z < 2 ^ k) (h0 : 0 ≤ x) (h1 : x < 2) : ∃ Z2 : Nat, (Z : Int) * 2 + x = Z2 ∧ Z2 < 2 ^ (k + 1) := by
  refine ⟨Z * 2 + x.toNat, by omega, ?_⟩
  rw [Nat.pow_succ]; omega

def l20EdgesGot (w : World) (rb : Nat) (B : Option Addr) (l cap : Nat) (e : Ending) (w' : World) : Prop :=
  ∃ (s c r : Int) (q : Nat), e = .returned (.tuple #[.int .i64 s, .int .i64 c, .int .i64 r]) ∧ -40000 ≤ s ∧ s ≤ 80000 ∧ 1 ≤ c ∧ c ≤ 5 ∧ 0 ≤ r ∧ r ≤ 3 ∧ Rd w' rb B l cap q ∧ w.grownBy w' (some rb)

set_option maxHeartbeats 2000000 in
theorem l20Edges_any (rb : Nat) (B : Option Addr) (l cap p : Nat) (w : World) (h : Rd w rb B l cap p) (hp : p ≤ 900000) :
    Calls Tryd.prog 30 #[.pointer (some ⟨rb, 0, none⟩)] w (l20EdgesGot w rb B l cap) := by
  go_enter Tryd.func30, Tryd.ntmps30
  go_wp2_with fail
  refine (l20Grid_any _ _ _ _ _ _ h (by omega)).mono ?_
  rintro e9 w9 ⟨c, r, rfl, k1, k2, k3, k4, H9, g9⟩
  obtain ⟨E, hE, hE1⟩ : ∃ E : Int, gridEI c r = E ∧ E ≤ 13 := by
    refine ⟨_, rfl, ?_⟩
    unfold gridEI
    split
    next h =>
      obtain ⟨C, R, rfl, rfl, hc, hr⟩ := grid_nat h
      have := (grid_edges hc hr).2.2
      rw [show ((C : Nat) : Int).toNat = C from rfl, show ((R : Nat) : Int).toNat = R from rfl]
      omega
    next => omega
  have HGE : Hid (∀ u, Calls Tryd.prog 13 #[.int .i64 c, .int .i64 r] u fun e w' => e = .returned (.int .i64 E) ∧ u = w') := fun u => by rw [← hE]; exact specGridEdges_any c r u
  obtain ⟨n, hn15, hmx⟩ : ∃ n : Nat, n ≤ 13 ∧ (if E < 0 then (0 : Int) else E) = (n : Int) := by
    refine ⟨E.toNat, by omega, ?_⟩
    split <;> omega
  clear hE hE1
  go_wp2_with fail
  refine (HGE.out _).mono ?_
  rintro e8 w8 ⟨rfl, rfl⟩
  go_wp2_with fail
  go_loopw [7, 8] (fun s k wr => ∃ K Z : Nat, K ≤ n ∧ k = .int .i64 ((n - K : Nat) : Nat) ∧ s = .int .i64 (Z : Nat) ∧ Hid (Z < 2 ^ K) ∧ Rd wr rb B l cap (p + 1 + 1 + 1 + 1 + K) ∧ w.grownBy wr (some rb)) (fun _ k _ => (intOf k).toNat)
  case atStart => exact ⟨0, 0, by omega, by first | rfl | (rw [Nat.sub_zero]), rfl, (by decide : 0 < 2 ^ 0), H9, g9⟩
  case round =>
    clear H9 g9 hmx HGE
    obtain ⟨K, Z, hK, rfl, rfl, HZ, HR, hg⟩ := hrel
    have hZ15 : Z < 32768 := Nat.lt_of_lt_of_le HZ.out (Nat.pow_le_pow_right (n := 2) (by omega) (show K ≤ 15 by omega))
    by_cases hlt : K < n
    · have w2 : IntKind.i64.wrap ((Z : Int) * 2) = (Z : Int) * 2 := IntWalk.i64_in _ (by omega)
      obtain ⟨N, hN⟩ : ∃ N, n - K = N + 1 := ⟨n - K - 1, by omega⟩
      have wN : IntKind.i64.wrap (((N + 1 : Nat) : Int) - 1) = (N : Int) := by rw [IntWalk.i64_in _ (by omega)]; omega
      have wN2 : IntKind.i64.wrap ((N : Int) + 1 - 1) = (N : Int) := by rw [IntWalk.i64_in _ (by omega)]; omega
      have hNK : n - (K + 1) = N := by omega
      have HNK := Lib.hid hNK
      have hNs : N ≤ 4096 := by omega
      rw [hN]
      clear hN hNK
      go_wp2_with fail
      refine (pick_any _ _ _ _ _ _ _ HR (by omega) (by omega)).mono ?_
      rintro e5 w5 ⟨x5, m5, rfl, a5, b5, -, rfl⟩
      have b5 := b5 (by omega)
      have HR2 := HR.next m5
      have hg2 := grown_trans hg (readOn_grown wr rb (p + 1 + 1 + 1 + 1 + K) m5)
      obtain ⟨Z2, hZ2, hZ3⟩ := two_pow_step HZ.out a5 b5
      have HZ2 := Lib.hid hZ3
      have wz : IntKind.i64.wrap ((Z : Int) * 2 + x5) = (Z2 : Int) := by rw [hZ2]; exact IntWalk.i64_in _ (by omega)
      clear HR hg HZ hZ2 hZ3
      generalize readOn wr rb (p + 1 + 1 + 1 + 1 + K) m5 = v5 at *
      go_wp2_with fail
      go_roundw
      case rel => exact ⟨K + 1, Z2, by omega, by rw [HNK.out], rfl, HZ2.out, HR2, hg2⟩
      case measure => simp [intOf]
    · obtain rfl : K = n := by omega
      rw [Nat.sub_self]
      go_wp2_with fail
      refine (pick_any _ _ _ _ _ _ _ HR (by omega) (by omega)).mono ?_
      rintro e6 w6 ⟨x6, m6, rfl, a6, b6, -, rfl⟩
      have b6 := b6 (by omega)
      have H6 := HR.next m6
      have G6 := grown_trans hg (readOn_grown wr rb (p + 1 + 1 + 1 + 1 + K) m6)
      have q6t : x6.tdiv 39 = x6 / 39 := Int.tdiv_eq_ediv_of_nonneg a6
      have q6u : IntKind.i64.wrap (x6 / 39) = x6 / 39 := IntWalk.i64_in _ (by omega)
      have wm6 : IntKind.i64.wrap (x6 / 39 * 9000) = x6 / 39 * 9000 := IntWalk.i64_in _ (by omega)
      have wa6 : IntKind.i64.wrap ((Z : Int) + x6 / 39 * 9000) = (Z : Int) + x6 / 39 * 9000 := IntWalk.i64_in _ (by omega)
      generalize readOn wr rb (p + 1 + 1 + 1 + 1 + K) m6 = v6 at *
      go_wp2_with fail
      refine (pick_any _ _ _ _ _ _ _ H6 (by omega) (by omega)).mono ?_
      rintro e7 w7 ⟨x7, m7, rfl, a7, b7, -, rfl⟩
      have b7 := b7 (by omega)
      have H7 := H6.next m7
      have G7 := grown_trans G6 (readOn_grown v6 rb (p + 1 + 1 + 1 + 1 + K + 1) m7)
      have q7t : x7.tdiv 59 = x7 / 59 := Int.tdiv_eq_ediv_of_nonneg a7
      have q7u : IntKind.i64.wrap (x7 / 59) = x7 / 59 := IntWalk.i64_in _ (by omega)
      have wm7 : IntKind.i64.wrap (x7 / 59 * 20000) = x7 / 59 * 20000 := IntWalk.i64_in _ (by omega)
      have wa7 : IntKind.i64.wrap ((Z : Int) + x6 / 39 * 9000 - x7 / 59 * 20000) = (Z : Int) + x6 / 39 * 9000 - x7 / 59 * 20000 := IntWalk.i64_in _ (by omega)
      generalize readOn v6 rb (p + 1 + 1 + 1 + 1 + K + 1) m7 = v7 at *
      go_wp2_with fail
      refine bodyPost_ret (v := .tuple #[.int .i64 ((Z : Int) + x6 / 39 * 9000 - x7 / 59 * 20000), .int .i64 (c), .int .i64 (r)]) (by simp [results, Tryd.results30, go_sem, *]) rfl ?_
      exact ⟨_, _, _, _, rfl, by omega, by omega, k1, k2, k3, k4, H7, G7⟩

theorem drawLeadsOk_any (A : Option Addr) (l cap : Nat) (w : World) (hb : BytesIn w w.heap.size A l) (hl : l ≤ 1048576) (hc : l ≤ cap) :
    Calls Tryd.prog 10 #[.slice A l cap] w fun e w' => ∃ s c r : Int, e = .returned (.tuple #[.int .i64 s, .int .i64 c, .int .i64 r]) ∧ -40000 ≤ s ∧ s ≤ 80000 ∧ 1 ≤ c ∧ c ≤ 5 ∧ 0 ≤ r ∧ r ≤ 3 ∧ Below w.heap.size w w' := by
  go_enter Tryd.func10, Tryd.ntmps10
  go_wp2_with fail
  refine (open_any _ _ _ _ hb hl hc).mono ?_
  rintro e0 w0 ⟨rb, B, l1, c1, rfl, H0, hge, G0⟩
  go_wp2_with fail
  refine (l20Edges_any _ _ _ _ _ _ H0 (by omega)).mono ?_
  rintro e9 w9 ⟨s, c, r, q, rfl, s1, s2, k1, k2, k3, k4, H9, g9⟩
  have G9 := G0.trans (below_of_grown g9 G0.size hge)
  go_wp2_with fail
  refine bodyPost_ret (v := .tuple #[.int .i64 (s), .int .i64 (c), .int .i64 (r)]) (by simp [results, Tryd.results10, go_sem, *]) rfl ?_
  exact ⟨_, _, _, rfl, s1, s2, k1, k2, k3, k4, G9⟩

theorem drawPassesOk_any (A : Option Addr) (l cap : Nat) (w : World) (hb : BytesIn w w.heap.size A l) (hl : l ≤ 1048576) (hc : l ≤ cap) :
    Calls Tryd.prog 16 #[.slice A l cap] w fun e w' => ∃ s c r : Int, e = .returned (.tuple #[.int .i64 s, .int .i64 c, .int .i64 r]) ∧ -40000 ≤ s ∧ s ≤ 80000 ∧ 1 ≤ c ∧ c ≤ 5 ∧ 0 ≤ r ∧ r ≤ 3 ∧ Below w.heap.size w w' := by
  go_enter Tryd.func16, Tryd.ntmps16
  go_wp2_with fail
  refine (open_any _ _ _ _ hb hl hc).mono ?_
  rintro e0 w0 ⟨rb, B, l1, c1, rfl, H0, hge, G0⟩
  go_wp2_with fail
  refine (l20Edges_any _ _ _ _ _ _ H0 (by omega)).mono ?_
  rintro e9 w9 ⟨s, c, r, q, rfl, s1, s2, k1, k2, k3, k4, H9, g9⟩
  have G9 := G0.trans (below_of_grown g9 G0.size hge)
  go_wp2_with fail
  refine bodyPost_ret (v := .tuple #[.int .i64 (s), .int .i64 (c), .int .i64 (r)]) (by simp [results, Tryd.results16, go_sem, *]) rfl ?_
  exact ⟨_, _, _, rfl, s1, s2, k1, k2, k3, k4, G9⟩
end Go.Proofs.YtcmomghlepmogaaDoor
