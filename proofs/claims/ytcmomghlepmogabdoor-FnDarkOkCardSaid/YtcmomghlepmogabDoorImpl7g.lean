/- Boards of the program: CountDark. -/
import Derived.Test.YtcmomghlepmogabDoorImpl7f
namespace Go.Proofs.YtcmomghlepmogabDoor
open Go.RowKit
set_option maxRecDepth 100000

/-- A row held in a cell of its own. -/
structure RowBox (u : World) (g b l c : Nat) (xs : List Int) : Prop where
  k0 : u.cell? ⟨g, 0, none⟩ = some (.slice (some ⟨b, 0, none⟩) l c)
  i0 : IntsIn u u.heap.size (some ⟨b, 0, none⟩) xs
  lt : g < u.heap.size
theorem RowBox.later {u u' : World} {g b l c : Nat} {xs : List Int} (h : RowBox u g b l c xs) (hb : Below u.heap.size u u') : RowBox u' g b l c xs :=
  ⟨(hb.cell h.lt).trans h.k0, (h.i0.below hb (Nat.le_refl _)).more hb.size, Nat.lt_of_lt_of_le h.lt hb.size⟩
theorem darkAt_any (u : World) (g b l c : Nat) (xs : List Int) (h : RowBox u g b l c xs) (hx : xs.length = l) (k : Nat) (hk : k < l) (z : Nat) (hz : xs.getD k 0 = (z : Nat)) :
    Calls Tryd.prog 46 #[.int .i64 k, .pointer (some ⟨g, 0, none⟩)] u fun e w' => e = .returned (.int .i64 (z : Nat)) ∧ Below u.heap.size u w' := by
  obtain ⟨k0, i0, -⟩ := h
  obtain ⟨b', off, hbo, hb1, g1⟩ := i0 k _ (ints_at (show k < xs.length by omega))
  injection hbo with hbo; injection hbo with e1 e2; subst e1 e2
  rw [hz, Nat.zero_add] at g1
  clear i0 hx hz
  go_enter Tryd.func46, Tryd.ntmps46
  go_wp2_with fail
  go_returns
  exact ⟨by first | rfl | simp, Below.refl _ _⟩
theorem darkTest_any (s c r : Int) (b0 b1 : Nat) (v : World) (hL : LaidB v) (h0 : v.cell? ⟨b0, 0, none⟩ = some (.int .i64 c)) (h1 : v.cell? ⟨b1, 0, none⟩ = some (.int .i64 r)) :
    Calls Tryd.prog 44 #[.int .i64 s, .pointer (some ⟨b0, 0, none⟩), .pointer (some ⟨b1, 0, none⟩)] v fun e w' => e = .returned (.bool (darkI s c r)) ∧ Below v.heap.size v w' := by
  go_enter Tryd.func44, Tryd.ntmps44
  go_wp2_with fail
  refine (darkOk_any _ _ _ _ hL).mono ?_
  rintro e1 w1 ⟨rfl, hb1⟩
  go_wp2_with fail
  go_returns
  exact ⟨rfl, hb1⟩
theorem GotInts.rowAt {w w' : World} {m : Nat} {xs : List Int} {e : Ending} (hl : xs.length = m + 1) (h : GotInts w xs e w') : ∃ g c, e = .returned (.slice (some ⟨g, 0, none⟩) (m + 1 : Nat) c) ∧ OwnI w' w.heap.size (.slice (some ⟨g, 0, none⟩) (m + 1) c) xs ∧ Below w.heap.size w w' := by
  obtain ⟨A, k, rfl, own, hb⟩ := h
  rw [hl] at own ⊢
  rcases own.form with ⟨_, h0⟩ | ⟨g, k', hv, _, _⟩
  · rw [h0] at hl; simp at hl
  · injection hv with hA _ hc
    subst hA
    exact ⟨g, k, rfl, own, hb⟩

set_option maxHeartbeats 2000000 in
theorem countDark_any (c r : Int) (w : World) (hL : LaidB w) : Calls Tryd.prog 23 #[.int .i64 c, .int .i64 r] w fun e w' => e = .returned (.int .i64 (cntDI c r)) ∧ Below w.heap.size w w' := by
  have hmf : ∀ (fn : Fn) (first cap : Array Value) (w : World), (Instr.makeFunc fn first cap).run Tryd.prog w = .ok (.func fn first cap) w := fun _ _ _ _ => rfl
  unfold cntDI
  cases hB : boardB c r with
  | false =>
    have HB := Lib.hid hB
    rw [if_neg (by simp)]
    clear hB
    have B2 : Below w.heap.size w ((w.alloc (.cells #[.int .i64 c] 3)).alloc (.cells #[.int .i64 r] 3)) := ((Below.refl _ _).alloc (by simp) _).alloc (by simp) _
    go_enter Tryd.func23, Tryd.ntmps23
    go_wp2_with fail
    refine (boardOk_any _ _ _).mono ?_
    rintro e1 w1 ⟨rfl, hb1⟩
    rw [HB.out]
    have B3 := B2.trans (hb1.mono B2.size)
    go_wp2_with fail
    go_returns
    exact ⟨rfl, B3⟩
  | true =>
    have HB := Lib.hid hB
    rw [if_pos rfl]
    obtain ⟨C, R, rfl, rfl, hc, hr⟩ := board_nat hB
    rw [show ((C : Nat) : Int).toNat = C from rfl, show ((R : Nat) : Int).toNat = R from rfl, ← dark_cnt hc hr]
    obtain ⟨n, hn, n1, n12, hnI, wn⟩ := prod_small hc hr
    have hq : ∀ s : Nat, s < 2 ^ n → darkI (s : Nat) C R = darkN C R s := fun s hs => (by
      have h1 : inB (s : Nat) ((2 ^ n : Nat) : Int) = true := inB_of hs
      unfold darkI stateB
      rw [hB, show ((C : Nat) : Int).toNat = C from rfl, show ((R : Nat) : Int).toNat = R from rfl, hn, h1]; rfl)
    rw [hn]
    have hsum : cntB (darkN C R) (2 ^ n) = sumN (fun k => cntS (darkN C R) (2 ^ n) k) (n + 1) := (sum_cnt _ _ _ fun t ht => by have := pop_low13 ht (by omega); omega).symm
    have hle : ∀ k, cntS (darkN C R) (2 ^ n) k ≤ 8192 := fun k => Nat.le_trans (cntS_le _ _ _) (Nat.le_trans (Nat.pow_le_pow_right (n := 2) (by omega) (show n ≤ 13 by omega)) (by decide))
    rw [hsum]
    generalize darkN C R = q at *
    have HQ := Lib.hid hq
    have HLE := Lib.hid hle
    have B2 : Below w.heap.size w ((w.alloc (.cells #[.int .i64 C] 3)).alloc (.cells #[.int .i64 R] 3)) := ((Below.refl _ _).alloc (by simp) _).alloc (by simp) _
    obtain ⟨u, hu⟩ : ∃ u, u = (w.alloc (.cells #[.int .i64 C] 3)).alloc (.cells #[.int .i64 R] 3) := ⟨_, rfl⟩
    have a0 : u.cell? ⟨w.heap.size, 0, none⟩ = some (.int .i64 C) := by rw [hu, World.cell?_alloc_past _ _ _ (by simp), World.cell?_alloc_at _ _ _ _ (by simp)]; rfl
    have a1 : u.cell? ⟨w.heap.size + 1, 0, none⟩ = some (.int .i64 R) := by rw [hu, World.cell?_alloc_at _ _ _ _ (by simp)]; rfl
    have l0 : w.heap.size < u.heap.size := by rw [hu]; simp; omega
    have l1 : w.heap.size + 1 < u.heap.size := by rw [hu]; simp
    rw [← hu] at B2
    have hLu := hL.on B2
    have HCS : Hid (∀ v, Below u.heap.size u v → Calls Tryd.prog 43 #[.int .i64 n, .func (.func 44) #[] #[.pointer (some ⟨w.heap.size, 0, none⟩), .pointer (some ⟨w.heap.size + 1, 0, none⟩)]] v (GotInts v (cntR q (2 ^ n) (n + 1)))) := fun v hv =>
      setsDark_any _ _ n q v (by omega) fun v2 hv2 s hs => by
        have hv3 := hv.trans (hv2.mono hv.size)
        rw [← HQ.out s hs]
        exact darkTest_any s C R _ _ v2 (hLu.on hv3) ((hv3.cell l0).trans a0) ((hv3.cell l1).trans a1)
    have HA0 : Hid (∀ v, Below u.heap.size u v → v.cell? ⟨w.heap.size, 0, none⟩ = some (.int .i64 C) ∧ v.cell? ⟨w.heap.size + 1, 0, none⟩ = some (.int .i64 R)) := fun v hv => ⟨(hv.cell l0).trans a0, (hv.cell l1).trans a1⟩
    have HGT : Hid (∀ k, k < n + 1 → (cntR q (2 ^ n) (n + 1)).getD k 0 = (cntS q (2 ^ n) k : Nat)) := fun k hk => cntR_getD q _ hk
    have HLN : Hid ((cntR q (2 ^ n) (n + 1)).length = n + 1) := cntR_length _ _ _
    obtain ⟨f, hf⟩ : ∃ f : Nat → Nat, (fun k => cntS q (2 ^ n) k) = f := ⟨_, rfl⟩
    have HF : Hid (∀ k, cntS q (2 ^ n) k = f k) := fun k => by rw [← hf]
    rw [hf]
    have HF8 : Hid (∀ k, f k ≤ 8192) := fun k => by rw [← hf]; exact HLE.out k
    generalize cntR q (2 ^ n) (n + 1) = L at *
    have HBB := Lib.hid B2
    subst hu
    clear hf hB hn hnI hq hle hsum hc hr B2 a0 a1 l0 l1 hLu HLE HQ
    go_enter Tryd.func23, Tryd.ntmps23
    go_wp2_with fail
    refine (boardOk_any _ _ _).mono ?_
    rintro e1 w1 ⟨rfl, hb1⟩
    rw [HB.out]
    obtain ⟨d0, d1⟩ := HA0.out _ hb1
    have B3 := HBB.out.trans (hb1.mono HBB.out.size)
    have HC1 := Lib.hid (HCS.out _ hb1)
    clear hb1
    go_wp2_with fail
    refine HC1.out.mono ?_
    intro e2 w2 h2
    obtain ⟨g, k, rfl, own, hb2⟩ := h2.rowAt HLN.out
    have B4 := B3.trans (hb2.mono B3.size)
    clear h2 hb2 B3 d0 d1
    have RH : RowBox (w2.alloc (.cells #[.slice (some ⟨g, 0, none⟩) (n + 1) k] 55)) w2.heap.size g (n + 1) k L :=
      ⟨by rw [World.cell?_alloc_at _ _ _ _ rfl]; rfl, (own.ints.alloc (Nat.le_refl _) _).more (by simp), by simp⟩
    have B5 : Below w.heap.size w (w2.alloc (.cells #[.slice (some ⟨g, 0, none⟩) (n + 1) k] 55)) := B4.alloc B4.size _
    have HSUM := Lib.hid (sumDark_any w2.heap.size (n + 1) f (w2.alloc (.cells #[.slice (some ⟨g, 0, none⟩) (n + 1) k] 55)) (by omega) HF8.out (fun v hv j hj => darkAt_any v _ _ _ _ _ (RH.later hv) HLN.out j hj _ (by rw [HGT.out j hj, HF.out j])))
    clear RH own
    go_wp2_with fail
    refine HSUM.out.mono ?_
    rintro e3 w3 ⟨rfl, hb3⟩
    go_wp2_with fail
    go_returns
    exact ⟨rfl, B5.trans (hb3.mono B5.size)⟩
end Go.Proofs.YtcmomghlepmogabDoor
