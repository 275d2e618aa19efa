/- Families of the reference: l8In, FamilyOk. -/
import Derived.Test.YtmdmmebekicpkaaFam
import Derived.Test.YtmdmmebekicpkaaObj
import Derived.Test.YtmdmmebekicpkaaBits7
import Derived.BigQuiet
import Derived.BigRegion
namespace Go.Proofs.Ytmdmmebekicpkaa
open Go.RowKit
set_option maxRecDepth 100000

/-- A law's own family in a box of the call's, in a later world. -/
structure ArgFam (w u : World) (bx : Nat) (t : Int) (A : Option Addr) (c : Nat) (xs : List Int) : Prop where
  c0 : u.cell? ⟨bx, 0, none⟩ = some (.int .i64 t)
  c1 : u.cell? ⟨bx, 1, none⟩ = some (.slice A xs.length c)
  row : IntsIn u w.heap.size A xs
  below : Below w.heap.size w u
  ge : w.heap.size ≤ bx
  lt : bx < u.heap.size
section
variable {w u u' : World} {bx : Nat} {t : Int} {A : Option Addr} {c : Nat} {xs : List Int}
theorem ArgFam.start (ty : TypeId) (h : IntsIn w w.heap.size A xs) : ArgFam w (w.alloc (.cells #[.int .i64 t, .slice A xs.length c] ty)) w.heap.size t A c xs :=
  ⟨by rw [World.cell?_alloc_at _ _ _ _ rfl]; rfl, by rw [World.cell?_alloc_at _ _ _ _ rfl]; rfl, h.alloc (Nat.le_refl _) _, (Below.refl _ _).alloc (Nat.le_refl _) _, Nat.le_refl _, by simp⟩
theorem ArgFam.step {B : Nat} (h : ArgFam w u bx t A c xs) (hb : Below B u u') (hB : bx < B) : ArgFam w u' bx t A c xs :=
  ⟨(hb.cell (p := ⟨bx, 0, none⟩) hB).trans h.c0, (hb.cell (p := ⟨bx, 1, none⟩) hB).trans h.c1, h.row.below hb (by have := h.ge; omega), h.below.trans (hb.mono (by have := h.ge; omega)), h.ge, Nat.lt_of_lt_of_le h.lt hb.size⟩
theorem ArgFam.next (h : ArgFam w u bx t A c xs) (hb : Below u.heap.size u u') : ArgFam w u' bx t A c xs := h.step hb h.lt
theorem ArgFam.drewN (h : ArgFam w u bx t A c xs) (k : Nat) : ArgFam w (u.drewN k) bx t A c xs := h.next (belowN (Below.refl _ _) k)
theorem ArgFam.ints (h : ArgFam w u bx t A c xs) : IntsIn u u.heap.size A xs := h.row.more h.below.size
end

theorem famB_take_succ {ns : List Nat} {k s : Nat} (hk : k < ns.length) : famB (ns.take (k + 1)) s = (famB (ns.take k) s || decide (ns.getD k 0 &&& s = ns.getD k 0)) := by
  have : ns.take (k + 1) = ns.take k ++ [ns.getD k 0] := by rw [List.take_add_one]; simp [List.getD, hk]
  rw [this]; simp [famB, List.any_append]

theorem famB_take_mono {ns : List Nat} {s : Nat} (k : Nat) (h : famB (ns.take k) s = true) : famB (ns.take ns.length) s = true := by
  rw [List.take_length]
  simp only [famB, List.any_eq_true] at h ⊢
  obtain ⟨x, hx, h⟩ := h
  exact ⟨x, List.mem_of_mem_take hx, h⟩

set_option maxHeartbeats 2000000 in
theorem l8In_any (t : Int) (A : Option Addr) (cap : Nat) (ns : List Nat) (s : Nat) (w : World) (hin : IntsIn w w.heap.size A (natI ns)) (hl : ns.length ≤ 1048576) (hns : ∀ x ∈ ns, x ≤ 8192) (hs : s ≤ 8192) :
    Calls Try.prog 72 #[.agg #[.int .i64 t, .slice A ns.length cap], .int .i64 s] w fun e w' => e = .returned (.bool (famB ns s)) ∧ Below w.heap.size w w' := by
  have L0 := ArgFam.start (t := t) (c := cap) 27 hin
  rw [natI_length] at L0
  obtain ⟨n, hn⟩ : ∃ n, ns.length = n := ⟨_, rfl⟩
  have HN := Lib.hid hn
  have HNS := Lib.hid hns
  have HV : Hid (famB (ns.take n) s = famB ns s) := by rw [Hid, ← hn, List.take_length]
  rw [hn] at L0 hl ⊢
  generalize famB ns s = v at *
  clear hn hns hin
  obtain ⟨c0, c1, _, _, _, _⟩ := id L0
  go_enter Try.func72, Try.ntmps72
  go_wp2_with fail
  go_loopw [5] (fun k wr => ∃ K : Nat, K ≤ n ∧ k = .int .i64 (K : Nat) ∧ famB (ns.take K) s = false ∧ ArgFam w wr w.heap.size t A cap (natI ns)) (fun k _ => n - (intOf k).toNat)
  case atStart => exact ⟨0, by omega, rfl, by simp [famB], L0⟩
  case round =>
    obtain ⟨K, hK, rfl, hf, L⟩ := hrel
    obtain ⟨c0, c1, row, _, _, _⟩ := id L
    rw [natI_length, HN.out] at c1
    by_cases hlt : K < n
    · have hS := famB_take_succ (s := s) (show K < ns.length by rw [HN.out]; exact hlt)
      have hx : ns.getD K 0 ≤ 8192 := HNS.out _ (by rw [List.getD_eq_getElem?_getD, List.getElem?_eq_getElem (show K < ns.length by rw [HN.out]; exact hlt)]; simp)
      obtain ⟨b, off, rfl, _, hc⟩ := row K (ns.getD K 0 : Nat) (by rw [natI, List.getElem?_map, List.getD_eq_getElem?_getD, List.getElem?_eq_getElem (show K < ns.length by rw [HN.out]; exact hlt)]; simp)
      generalize ns.getD K 0 = x at *
      rw [hf, Bool.false_or] at hS
      have ha := and_small hx hs
      have HF := Lib.hid hf
      have HS := Lib.hid hS
      have HL := Lib.hid L
      clear hf hS row L L0
      have ij : (K : Int) < (n : Int) := by omega
      by_cases hxe : x &&& s = x
      · rw [hxe] at ha
        have HR : Hid (v = true) := by
          have h1 := HS.out
          rw [decide_eq_true hxe] at h1
          rw [Hid, ← HV.out]
          have h2 := famB_take_mono (K + 1) h1
          rw [HN.out] at h2
          exact h2
        clear hxe
        go_wp2_with fail
        go_quiet (fail)
        go_wp2_with fail
        go_returns
        exact ⟨retB HR.out.symm, belowN HL.out.below _⟩
      · have hS2 := HS.out
        rw [decide_eq_false hxe] at hS2
        have HS2 := Lib.hid hS2
        clear hS2
        generalize x &&& s = z at *
        have hz1 : ((z : Int) = (x : Int)) = False := eq_false (by omega)
        have hz2 : ((x : Int) = (z : Int)) = False := eq_false (by omega)
        have hz3 : ((z : Int) == (x : Int)) = false := by simp; omega
        go_wp2_with fail
        go_quiet (fail)
        go_wp2_with fail
        go_roundw
        case rel => exact ⟨K + 1, by omega, by go_num, HS2.out, HL.out.drewN _⟩
        case measure => simp [intOf]; omega
    · obtain rfl : K = n := by omega
      go_wp2_with fail
      go_returns
      exact ⟨retB (by rw [← HV.out, hf]), L.below⟩
end Go.Proofs.Ytmdmmebekicpkaa

/- Families of the reference: FamilyOk. -/
namespace Go.Proofs.Ytmdmmebekicpkaa
open Go.RowKit
set_option maxRecDepth 100000

theorem step_false {T : Nat} {xs : List Int} {K n : Nat} (hK : K < n) (h : elemOk T xs K = false) : stepOk T xs n = false := by
  cases hs : stepOk T xs n with
  | false => rfl
  | true => rw [(stepOk_iff n).1 hs K hK] at h; cases h
theorem elem_nat {T : Nat} {xs : List Int} {K j : Nat} (h : stepOk T xs K = true) (hj : j < K) : ∃ q : Nat, xs.getD j 0 = q ∧ q < 2 ^ T := by
  have h := (stepOk_iff K).1 h j hj
  simp only [elemOk, Bool.and_eq_true, decide_eq_true_eq] at h
  exact ⟨(xs.getD j 0).toNat, by omega, by omega⟩
theorem quiet_same8 {P : Program} {w : World} {n : Nat} {fn : FuncId} {args : Array Value} {v : Value} (h : Calls P fn args (w.drewN n) fun e w' => e = .returned v ∧ w.drewN n = w') :
    Calls P fn args (w.drewN n) fun e w' => e = .returned v ∧ ∃ m, w' = w.drewN m := h.mono fun _ _ ⟨he, hb⟩ => ⟨he, n, hb.symm⟩
/-- None of the first j has all things of the k-th. -/
def freeTo (xs : List Int) (k j : Nat) : Bool := (List.range j).all fun j => !decide ((xs.getD j 0).toNat &&& (xs.getD k 0).toNat = (xs.getD j 0).toNat)
theorem freeTo_succ (xs : List Int) (k j : Nat) : freeTo xs k (j + 1) = (freeTo xs k j && !decide ((xs.getD j 0).toNat &&& (xs.getD k 0).toNat = (xs.getD j 0).toNat)) := by
  simp [freeTo, List.range_succ]
theorem freeTo_false {xs : List Int} {k j n : Nat} (hj : j < n) (h : (xs.getD j 0).toNat &&& (xs.getD k 0).toNat = (xs.getD j 0).toNat) : freeTo xs k n = false := by
  rw [freeTo, List.all_eq_false]
  exact ⟨j, List.mem_range.2 hj, by rw [decide_eq_true h]; simp⟩
theorem ints_cell {w : World} {B : Nat} {A : Option Addr} {xs : List Int} {k : Nat} (h : IntsIn w B A xs) (hk : k < xs.length) : ∃ b off, A = some ⟨b, off, none⟩ ∧ b < B ∧ w.cell? ⟨b, off + k, none⟩ = some (.int .i64 (xs.getD k 0)) :=
  h k _ (by simp [List.getD, hk])

set_option maxHeartbeats 4000000 in
theorem specFamilyOk_any (t : Int) (A : Option Addr) (cap : Nat) (xs : List Int) (w : World) (hin : IntsIn w w.heap.size A xs) (hl : xs.length ≤ maxLen) :
    Calls Try.prog 71 #[.agg #[.int .i64 t, .slice A xs.length cap]] w fun e w' => e = .returned (.bool (famOkB t xs)) ∧ Below w.heap.size w w' := by
  have hl2 : xs.length ≤ 9223372036854775807 := by simp [maxLen] at hl; omega
  have L0 := ArgFam.start (t := t) (c := cap) 27 hin
  unfold famOkB
  cases hT : (decide (0 ≤ t) && decide (t ≤ 6)) with
  | false =>
    have HT := Lib.hid hT
    obtain ⟨c0, c1, _, _, _, _⟩ := id L0
    go_enter Try.func71, Try.ntmps71
    go_wp2_with fail
    refine (l1In_any _ _ _ _).mono ?_
    rintro e1 w1 ⟨rfl, rfl⟩
    rw [HT.out]
    go_wp2_with fail
    go_returns
    exact ⟨rfl, L0.below⟩
  | true =>
    have HT := Lib.hid hT
    obtain ⟨T, rfl⟩ : ∃ T : Nat, t = T := ⟨t.toNat, by simp at hT; omega⟩
    have hT6 : T ≤ 6 := by simp at hT; omega
    obtain ⟨P, hP, p1, p2, hp3, hp4⟩ := pow_named12 (show T ≤ 13 by omega)
    have hP64 : P ≤ 64 := by rw [← hP]; exact Nat.pow_le_pow_right (by omega) hT6
    have wP1 : IntKind.i64.wrap ((P : Int) - 1) = (P : Int) - 1 := IntWalk.i64_in _ (by omega)
    rw [show ((T : Nat) : Int).toNat = T from rfl, Bool.true_and]
    have HP := Lib.hid hP
    obtain ⟨n, hn⟩ : ∃ n, xs.length = n := ⟨_, rfl⟩
    have HN := Lib.hid hn
    rw [hn] at hl2 ⊢
    obtain ⟨v, hv⟩ : ∃ v, stepOk T xs n = v := ⟨_, rfl⟩
    have HV := Lib.hid hv
    rw [hv]
    have L0' := L0
    rw [hn] at L0'
    obtain ⟨c0, c1, _, _, _, _⟩ := id L0
    rw [hn] at c1
    clear hP hn hv hT L0 hl hin
    go_enter Try.func71, Try.ntmps71
    go_wp2_with fail
    refine (l1In_any _ _ _ _).mono ?_
    rintro e1 w1 ⟨rfl, rfl⟩
    rw [HT.out]
    go_wp2_with fail
    go_loopw [3] (fun k wr => ∃ K : Nat, K ≤ n ∧ k = .int .i64 (K : Nat) ∧ stepOk T xs K = true ∧ ArgFam w wr w.heap.size T A cap xs) (fun k _ => n - (intOf k).toNat)
    case atStart => exact ⟨0, by omega, rfl, rfl, by simpa only [HN.out] using L0'⟩
    case round =>
      clear L0' c0 c1
      obtain ⟨K, hK, rfl, hf, L⟩ := hrel
      obtain ⟨c0, c1, row, _, _, _⟩ := id L
      rw [HN.out] at c1
      by_cases hlt : K < n
      · have ij : (K : Int) < (n : Int) := by omega
        have HL := Lib.hid L
        have HF := Lib.hid hf
        obtain ⟨b, off, rfl, _, hc⟩ := ints_cell row (k := K) (by rw [HN.out]; exact hlt)
        obtain ⟨x, hx⟩ : ∃ x, xs.getD K 0 = x := ⟨_, rfl⟩
        have HX := Lib.hid hx
        have HROW := Lib.hid row
        rw [hx] at hc
        clear L hf hx row
        cases hr : (decide (0 ≤ x) && decide (x ≤ (P : Int) - 1)) with
        | false =>
          have HRNG := Lib.hid hr
          have HR : Hid (v = false) := by
            rw [Hid, ← HV.out]
            exact step_false hlt (by rw [elemOk, HX.out, HP.out, hr]; rfl)
          have HC : Hid (∀ u, Calls Try.prog 60 #[.int .i64 x, .int .i64 0, .int .i64 ((P : Int) - 1)] u fun e w' => e = .returned (.bool false) ∧ u = w') := fun u => by
            have := l1In_any x 0 ((P : Int) - 1) u
            rw [hr] at this; exact this
          clear hr
          by_cases hk0 : K = 0
          · have z0 : decide (0 < K) = false := by simp; omega
            have z1 : decide ((0 : Int) < (K : Int)) = false := by simp; omega
            have z2 : ¬ 0 < K := by omega
            clear hk0
            go_wp2_with fail
            go_quiet ((go_at_call 60; with_reducible exact quiet_same8 (HC.out _)))
            go_wp2_with fail
            go_returns
            exact ⟨retB HR.out.symm, belowN HL.out.below _⟩
          · have k0 : (0 : Int) < (K : Int) := by omega
            have k1 : ((K : Int) == 0) = false := by simp; omega
            have wk : IntKind.i64.wrap ((K : Int) - 1) = ((K - 1 : Nat) : Int) := by rw [IntWalk.i64_in _ (by omega)]; omega
            have ik : ((K - 1 : Nat) : Int) < (n : Int) := by omega
            have hc2 : wr.cell? ⟨b, off + (K - 1), none⟩ = some (.int .i64 (xs.getD (K - 1) 0)) := by
              obtain ⟨b2, off2, e, _, hc2⟩ := ints_cell HROW.out (k := K - 1) (by rw [HN.out]; omega)
              injection e with e; injection e with e1 e2
              rw [e1, e2]; exact hc2
            generalize xs.getD (K - 1) 0 = y at *
            generalize K - 1 = K1 at *
            go_wp2_with fail
            go_quiet ((go_at_call 60; with_reducible exact quiet_same8 (HC.out _)))
            go_wp2_with fail
            go_returns
            exact ⟨retB HR.out.symm, belowN HL.out.below _⟩
        | true =>
          have HRNG := Lib.hid hr
          have HC : Hid (∀ u, Calls Try.prog 60 #[.int .i64 x, .int .i64 0, .int .i64 ((P : Int) - 1)] u fun e w' => e = .returned (.bool true) ∧ u = w') := fun u => by
            have := l1In_any x 0 ((P : Int) - 1) u
            rw [hr] at this; exact this
          obtain ⟨p, rfl⟩ : ∃ p : Nat, x = p := ⟨x.toNat, by simp at hr; omega⟩
          have hp64 : p < 64 := by simp at hr; omega
          clear hr
          by_cases hk0 : K = 0
          · have z0 : decide (0 < K) = false := by simp; omega
            have z1 : decide ((0 : Int) < (K : Int)) = false := by simp; omega
            have z2 : ¬ 0 < K := by omega
            have HK0 := Lib.hid hk0
            clear hk0
            go_wp2_with fail
            go_quiet ((go_at_call 60; with_reducible exact quiet_same8 (HC.out _)))
            have L2 := Lib.hid (HL.out.drewN nq)
            go_wp2_with fail
            go_loopw [4] (fun j wr => j = .int .i64 (0 : Nat) ∧ ArgFam w wr w.heap.size T (some ⟨b, off, none⟩) cap xs) (fun _ _ => 0)
            case atStart => exact ⟨rfl, L2.out⟩
            case round =>
              obtain ⟨rfl, L3⟩ := hrel
              go_wp2_with fail
              go_roundw
              case rel =>
                refine ⟨K + 1, by omega, by go_num, ?_, L3⟩
                have hr := HRNG.out
                rw [stepOk, HF.out, elemOk, HX.out, HP.out, hr, HK0.out]
                simp
              case measure => simp [intOf]; omega
          · have k0 : (0 : Int) < (K : Int) := by omega
            have k2 : decide (0 < K) = true := by simp; omega
            have k3 : decide ((0 : Int) < (K : Int)) = true := by simp; omega
            have k1 : ((K : Int) == 0) = false := by simp; omega
            have wk : IntKind.i64.wrap ((K : Int) - 1) = ((K - 1 : Nat) : Int) := by rw [IntWalk.i64_in _ (by omega)]; omega
            have ik : ((K - 1 : Nat) : Int) < (n : Int) := by omega
            obtain ⟨y, hy, hy2⟩ := elem_nat HF.out (j := K - 1) (by omega)
            have hc2 : wr.cell? ⟨b, off + (K - 1), none⟩ = some (.int .i64 (y : Nat)) := by
              obtain ⟨b2, off2, e, _, hc2⟩ := ints_cell HROW.out (k := K - 1) (by rw [HN.out]; omega)
              injection e with e; injection e with e1 e2
              rw [e1, e2, ← hy]; exact hc2
            by_cases hxy : p ≤ y
            · have HR : Hid (v = false) := by
                rw [Hid, ← HV.out]
                refine step_false hlt ?_
                rw [elemOk, HX.out, hy, decide_eq_false hk0, show decide ((y : Int) < (p : Int)) = false by simp; omega]
                simp
              have g1 : decide (p ≤ y) = true := by simp; omega
              have g2 : decide ((p : Int) ≤ (y : Int)) = true := by simp; omega
              clear hy hy2
              generalize K - 1 = K1 at *
              go_wp2_with fail
              go_quiet ((go_at_call 60; with_reducible exact quiet_same8 (HC.out _)))
              go_wp2_with fail
              go_returns
              exact ⟨retB HR.out.symm, belowN HL.out.below _⟩
            · have g1 : decide (p ≤ y) = false := by simp; omega
              have g2 : decide ((p : Int) ≤ (y : Int)) = false := by simp; omega
              have HXY := Lib.hid (show (y : Int) < (p : Int) by omega)
              have HY := Lib.hid hy
              have HK0 := Lib.hid hk0
              have HEL : Hid (elemOk T xs K = freeTo xs K K) := by
                have hr := HRNG.out
                rw [Hid, elemOk, freeTo, HX.out, HP.out, hr, hy, decide_eq_false hk0, decide_eq_true HXY.out, Bool.false_or, Bool.true_and, Bool.true_and]
              clear hy hy2
              generalize K - 1 = K1 at *
              go_wp2_with fail
              go_quiet ((go_at_call 60; with_reducible exact quiet_same8 (HC.out _)))
              have L2 := Lib.hid (HL.out.drewN nq)
              go_wp2_with fail
              clear c0 c1 hc hc2 k0 k1 wk ik k2 k3 g1 g2
              go_loopw [4] (fun j wr => ∃ J : Nat, J ≤ K ∧ j = .int .i64 (J : Nat) ∧ freeTo xs K J = true ∧ ArgFam w wr w.heap.size T (some ⟨b, off, none⟩) cap xs) (fun j _ => K - (intOf j).toNat)
              case atStart => exact ⟨0, by omega, rfl, rfl, L2.out⟩
              case round =>
                obtain ⟨J, hJ, rfl, hfr, L3⟩ := hrel
                have HL3 := Lib.hid L3
                obtain ⟨c0, c1, row, _, _, _⟩ := id L3
                rw [HN.out] at c1
                by_cases hjk : J < K
                · have jk : (J : Int) < (K : Int) := by omega
                  have jn : (J : Int) < (n : Int) := by omega
                  obtain ⟨q, hq, hq2⟩ := elem_nat HF.out hjk
                  have hq64 : q < 64 := by rw [HP.out] at hq2; omega
                  have hcK : wr.cell? ⟨b, off + K, none⟩ = some (.int .i64 (p : Nat)) := by
                    obtain ⟨b2, off2, e, _, hc2⟩ := ints_cell row (k := K) (by rw [HN.out]; omega)
                    injection e with e; injection e with e1 e2
                    rw [e1, e2, ← HX.out]; exact hc2
                  have hcJ : wr.cell? ⟨b, off + J, none⟩ = some (.int .i64 (q : Nat)) := by
                    obtain ⟨b2, off2, e, _, hc2⟩ := ints_cell row (k := J) (by rw [HN.out]; omega)
                    injection e with e; injection e with e1 e2
                    rw [e1, e2, ← hq]; exact hc2
                  have ha := and_small (x := q) (y := p) (by omega) (by omega)
                  have hbit : (xs.getD J 0).toNat &&& (xs.getD K 0).toNat = q &&& p := by rw [hq, HX.out]; rfl
                  have hqn : (xs.getD J 0).toNat = q := by rw [hq]; rfl
                  have HFS : Hid (freeTo xs K (J + 1) = !decide (q &&& p = q)) := by rw [Hid, freeTo_succ, hfr, hbit, hqn, Bool.true_and]
                  by_cases hqp : q &&& p = q
                  · have HR : Hid (v = false) := by
                      rw [Hid, ← HV.out]
                      refine step_false hlt ?_
                      rw [HEL.out]
                      exact freeTo_false hjk (by rw [hbit, hqn]; exact hqp)
                    rw [hqp] at ha
                    clear hqp hq hq2 hbit hqn hfr row L3
                    go_wp2_with fail
                    go_quiet (fail)
                    go_wp2_with fail
                    go_returns
                    exact ⟨retB HR.out.symm, belowN HL3.out.below _⟩
                  · have HF2 : Hid (freeTo xs K (J + 1) = true) := by rw [Hid, HFS.out, decide_eq_false hqp]; rfl
                    clear hq hq2 hbit hqn hfr row L3 HFS
                    generalize q &&& p = z at *
                    have hz1 : ((z : Int) = (q : Int)) = False := eq_false (by omega)
                    have hz2 : ((q : Int) = (z : Int)) = False := eq_false (by omega)
                    have hz3 : ((z : Int) == (q : Int)) = false := by simp; omega
                    go_wp2_with fail
                    go_quiet (fail)
                    go_wp2_with fail
                    go_roundw
                    case rel => exact ⟨J + 1, by omega, by go_num, HF2.out, HL3.out.drewN _⟩
                    case measure => simp [intOf]; omega
                · obtain rfl : J = K := by omega
                  go_wp2_with fail
                  go_roundw
                  case rel => exact ⟨J + 1, by omega, by go_num, by rw [stepOk, HF.out, HEL.out, hfr]; rfl, L3⟩
                  case measure => simp [intOf]; omega
      · obtain rfl : K = n := by omega
        go_wp2_with fail
        go_returns
        exact ⟨retB (by rw [← HV.out, hf]), L.below⟩
end Go.Proofs.Ytmdmmebekicpkaa

/- Families of the reference: InOk. -/
namespace Go.Proofs.Ytmdmmebekicpkaa
open Go.RowKit
set_option maxRecDepth 100000

theorem asc_len : ∀ (ns : List Nat) (lo m : Nat), ns.Pairwise (· < ·) → (∀ n ∈ ns, lo ≤ n ∧ n < m) → lo ≤ m → lo + ns.length ≤ m
  | [], lo, m, _, _, h => h
  | x :: r, lo, m, hp, hb, hm => by
    rw [List.pairwise_cons] at hp
    have hx := hb x (by simp)
    have := asc_len r (x + 1) m hp.2 (fun n hn => ⟨hp.1 n hn, (hb n (List.mem_cons_of_mem _ hn)).2⟩) (by omega)
    simp only [List.length_cons]; omega
theorem OkN.len {T : Nat} {ns : List Nat} (h : OkN T ns) : ns.length ≤ 2 ^ T := by
  have := asc_len ns 0 (2 ^ T) h.asc (fun n hn => ⟨Nat.zero_le _, h.lt n hn⟩) (Nat.zero_le _)
  omega
theorem pow_64 {T : Nat} (h : T ≤ 6) : 2 ^ T ≤ 64 := Nat.pow_le_pow_right (n := 2) (by omega) h
/-- Whether a state is in a family. -/
def famInI (t : Int) (xs : List Int) (s : Int) : Bool := famOkB t xs && ((decide (0 ≤ s) && decide (s ≤ (2 ^ t.toNat : Nat) - 1)) && famB (xs.map Int.toNat) s.toNat)
theorem natI_back (ns : List Nat) : (natI ns).map Int.toNat = ns := by
  rw [natI, List.map_map]
  conv => rhs; rw [← List.map_id ns]
  exact List.map_congr_left fun x _ => rfl

/-- How many of the first s states are in a family. -/
def famTo (ns : List Nat) (s : Nat) : Nat := (List.range s).countP (famB ns)
theorem famTo_succ (ns : List Nat) (s : Nat) : famTo ns (s + 1) = famTo ns s + if famB ns s = true then 1 else 0 := by
  rw [famTo, List.range_succ, List.countP_append, famTo]
  cases h : famB ns s <;> simp [h]
theorem famTo_le (ns : List Nat) (s : Nat) : famTo ns s ≤ s := by
  have := List.countP_le_length (p := famB ns) (l := List.range s)
  rw [List.length_range] at this; exact this
def famCountI (t : Int) (xs : List Int) : Int := if famOkB t xs = true then (famTo (xs.map Int.toNat) (2 ^ t.toNat) : Nat) else -1

end Go.Proofs.Ytmdmmebekicpkaa
