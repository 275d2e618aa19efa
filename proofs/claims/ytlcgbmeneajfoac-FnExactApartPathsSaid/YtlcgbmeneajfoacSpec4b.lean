/- ShortestOf, ThinnestOf, ApartPaths of the reference. -/
import Derived.Test.YtlcgbmeneajfoacSpec4
namespace Go.Proofs.Ytlcgbmeneajfoac
open Go.RowKit
set_option maxRecDepth 100000

theorem specShortestOf_any (n a b : Int) (A : Option Addr) (cap : Nat) (es : List (Int × Int)) (w : World) (hes : EdgesIn w w.heap.size A es) (hl : es.length ≤ 1048576) :
    Calls Try.prog 23 #[.agg #[.int .i64 n, .slice A es.length cap], .int .i64 a, .int .i64 b] w fun e w' => e = .returned (.int .i64 (minAll (pathsN n es a b))) ∧ Below w.heap.size w w' := by
  have L0 := ArgNet.start (cap := cap) (n := n) 30 hes
  have hlen := pathsN_len n es a b
  have hx : ∀ x ∈ pathsN n es a b, x < 512 := fun x => pathsN_lt
  have HC := Lib.hid (specPathsOf_any n a b A cap es _ L0.edges hl)
  generalize pathsN n es a b = xs at *
  have HX := Lib.hid hx
  clear hx
  obtain ⟨m, hm⟩ : ∃ m, xs.length = m := ⟨_, rfl⟩
  have HA : Hid (minAll xs = minTo xs m) := by rw [Hid, ← hm]; rfl
  have HM := Lib.hid hm
  rw [hm] at hlen
  clear hm
  have c0 := L0.c0
  have c1 := L0.c1
  go_enter Try.func23, Try.ntmps23
  go_wp2_with fail
  refine HC.out.mono ?_
  rintro e1 w1 h1
  obtain ⟨A1, k1, rfl, own1, _, hb1⟩ := natI_got h1
  have L1 := L0.step hb1 L0.lt
  rw [HM.out] at own1 ⊢
  have hin := own1.ints
  have B1 := L1.below
  clear h1 L0 c0 c1 own1 hb1 L1
  go_wp2_with fail
  go_loopw [7, 9] (fun v t wr => ∃ k : Nat, k ≤ m ∧ v = .int .i64 (minTo xs k) ∧ t = .int .i64 (k : Nat) ∧ wr = w1) (fun _ t _ => m - (intOf t).toNat)
  case atStart => exact ⟨0, by omega, rfl, rfl, rfl⟩
  case round =>
    obtain ⟨k, hk, rfl, rfl, rfl⟩ := hrel
    by_cases hlt : k < m
    · have kx : k < xs.length := by have := HM.out; omega
      obtain ⟨b, off, rfl, hbb, g1⟩ := hin k _ (natI_at kx)
      have h512 := HX.out _ (getD_mem kx)
      have hM : ∀ v, Calls Try.prog 56 #[.int .i64 (xs.getD k 0 : Nat)] v fun e w' => e = .returned (.int .i64 (pop (xs.getD k 0))) ∧ v = w' := fun v => l1Many_any _ v (by omega)
      have hlow := minTo_low xs k
      have hnext : minTo xs (k + 1) = if minTo xs k < 0 ∨ (pop (xs.getD k 0) : Int) < minTo xs k then ((pop (xs.getD k 0) : Nat) : Int) else minTo xs k := rfl
      generalize xs.getD k 0 = x at *
      generalize pop x = p at *
      generalize hf : minTo xs k = f at *
      clear hf
      by_cases h1 : f < 0
      · have HN : Hid (minTo xs (k + 1) = (p : Int)) := by rw [Hid, hnext, if_pos (.inl h1)]
        clear hnext hin hlow
        go_wp2_with fail
        refine (hM _).mono ?_
        rintro e2 w2 ⟨rfl, rfl⟩
        go_wp2_with fail
        go_roundw
        case rel => exact ⟨k + 1, by omega, by rw [HN.out], by go_num, by first | rfl | trivial⟩
        case measure => simp [intOf]; omega
      · by_cases h3 : (p : Int) < f
        · have HN : Hid (minTo xs (k + 1) = (p : Int)) := by rw [Hid, hnext, if_pos (.inr h3)]
          clear hnext hin hlow
          go_wp2_with fail
          refine (hM _).mono ?_
          rintro e2 w2 ⟨rfl, rfl⟩
          go_wp2_with fail
          refine (hM _).mono ?_
          rintro e2 w2 ⟨rfl, rfl⟩
          go_wp2_with fail
          go_roundw
          case rel => exact ⟨k + 1, by omega, by rw [HN.out], by go_num, by first | rfl | trivial⟩
          case measure => simp [intOf]; omega
        · have HN : Hid (minTo xs (k + 1) = f) := by rw [Hid, hnext, if_neg (by omega)]
          clear hnext hin hlow
          go_wp2_with fail
          refine (hM _).mono ?_
          rintro e2 w2 ⟨rfl, rfl⟩
          go_wp2_with fail
          go_roundw
          case rel => exact ⟨k + 1, by omega, by rw [HN.out], by go_num, by first | rfl | trivial⟩
          case measure => simp [intOf]; omega
    · obtain rfl : k = m := by omega
      go_wp2_with fail
      go_returns
      exact ⟨retI HA.out.symm, B1⟩

theorem specThinnestOf_any (n a b : Int) (A : Option Addr) (cap : Nat) (es : List (Int × Int)) (w : World) (hes : EdgesIn w w.heap.size A es) (hl : es.length ≤ 1048576) :
    Calls Try.prog 28 #[.agg #[.int .i64 n, .slice A es.length cap], .int .i64 a, .int .i64 b] w fun e w' => e = .returned (.int .i64 (minAll (cutsN n es a b))) ∧ Below w.heap.size w w' := by
  have L0 := ArgNet.start (cap := cap) (n := n) 30 hes
  have hlen := cutsN_len n es a b
  have hx : ∀ x ∈ cutsN n es a b, x < 512 := fun x => cutsN_lt
  have HC := Lib.hid (specCutsOf_any n a b A cap es _ L0.edges hl)
  generalize cutsN n es a b = xs at *
  have HX := Lib.hid hx
  clear hx
  obtain ⟨m, hm⟩ : ∃ m, xs.length = m := ⟨_, rfl⟩
  have HA : Hid (minAll xs = minTo xs m) := by rw [Hid, ← hm]; rfl
  have HM := Lib.hid hm
  rw [hm] at hlen
  clear hm
  have c0 := L0.c0
  have c1 := L0.c1
  go_enter Try.func28, Try.ntmps28
  go_wp2_with fail
  refine HC.out.mono ?_
  rintro e1 w1 h1
  obtain ⟨A1, k1, rfl, own1, _, hb1⟩ := natI_got h1
  have L1 := L0.step hb1 L0.lt
  rw [HM.out] at own1 ⊢
  have hin := own1.ints
  have B1 := L1.below
  clear h1 L0 c0 c1 own1 hb1 L1
  go_wp2_with fail
  go_loopw [7, 9] (fun v t wr => ∃ k : Nat, k ≤ m ∧ v = .int .i64 (minTo xs k) ∧ t = .int .i64 (k : Nat) ∧ wr = w1) (fun _ t _ => m - (intOf t).toNat)
  case atStart => exact ⟨0, by omega, rfl, rfl, rfl⟩
  case round =>
    obtain ⟨k, hk, rfl, rfl, rfl⟩ := hrel
    by_cases hlt : k < m
    · have kx : k < xs.length := by have := HM.out; omega
      obtain ⟨b, off, rfl, hbb, g1⟩ := hin k _ (natI_at kx)
      have h512 := HX.out _ (getD_mem kx)
      have hM : ∀ v, Calls Try.prog 56 #[.int .i64 (xs.getD k 0 : Nat)] v fun e w' => e = .returned (.int .i64 (pop (xs.getD k 0))) ∧ v = w' := fun v => l1Many_any _ v (by omega)
      have hlow := minTo_low xs k
      have hnext : minTo xs (k + 1) = if minTo xs k < 0 ∨ (pop (xs.getD k 0) : Int) < minTo xs k then ((pop (xs.getD k 0) : Nat) : Int) else minTo xs k := rfl
      generalize xs.getD k 0 = x at *
      generalize pop x = p at *
      generalize hf : minTo xs k = f at *
      clear hf
      by_cases h1 : f < 0
      · have HN : Hid (minTo xs (k + 1) = (p : Int)) := by rw [Hid, hnext, if_pos (.inl h1)]
        clear hnext hin hlow
        go_wp2_with fail
        refine (hM _).mono ?_
        rintro e2 w2 ⟨rfl, rfl⟩
        go_wp2_with fail
        go_roundw
        case rel => exact ⟨k + 1, by omega, by rw [HN.out], by go_num, by first | rfl | trivial⟩
        case measure => simp [intOf]; omega
      · by_cases h3 : (p : Int) < f
        · have HN : Hid (minTo xs (k + 1) = (p : Int)) := by rw [Hid, hnext, if_pos (.inr h3)]
          clear hnext hin hlow
          go_wp2_with fail
          refine (hM _).mono ?_
          rintro e2 w2 ⟨rfl, rfl⟩
          go_wp2_with fail
          refine (hM _).mono ?_
          rintro e2 w2 ⟨rfl, rfl⟩
          go_wp2_with fail
          go_roundw
          case rel => exact ⟨k + 1, by omega, by rw [HN.out], by go_num, by first | rfl | trivial⟩
          case measure => simp [intOf]; omega
        · have HN : Hid (minTo xs (k + 1) = f) := by rw [Hid, hnext, if_neg (by omega)]
          clear hnext hin hlow
          go_wp2_with fail
          refine (hM _).mono ?_
          rintro e2 w2 ⟨rfl, rfl⟩
          go_wp2_with fail
          go_roundw
          case rel => exact ⟨k + 1, by omega, by rw [HN.out], by go_num, by first | rfl | trivial⟩
          case measure => simp [intOf]; omega
    · obtain rfl : k = m := by omega
      go_wp2_with fail
      go_returns
      exact ⟨retI HA.out.symm, B1⟩

/-- What l4Apart says of a list, from 'i' on. -/
def TopOn (xs : List Nat) (i : Nat) : Prop :=
  ∀ (u : Nat) (A : Option Addr) (cap : Nat) (w : World), u < 512 → IntsIn w w.heap.size A (natI xs) → Calls Try.prog 63 #[.slice A xs.length cap, .int .i64 i, .int .i64 u] w fun e w' => e = .returned (.int .i64 (aparts (xs.drop i) u : Nat)) ∧ w = w'

set_option maxHeartbeats 2000000 in
theorem l4Apart_step (xs : List Nat) (i : Nat) (hi : i ≤ xs.length) (hl : xs.length ≤ 1048576) (hx : ∀ x ∈ xs, x < 512) (ih : ∀ j, i < j → j ≤ xs.length → TopOn xs j) : TopOn xs i := by
  intro u A cap w hu hxs
  have HX := Lib.hid hx
  have HI := Lib.hid ih
  obtain ⟨m, hm⟩ : ∃ m, xs.length = m := ⟨_, rfl⟩
  have HA : Hid (topTo xs u i (m - i) = aparts (xs.drop i) u) := by rw [Hid, ← hm]; exact topTo_all xs i u
  rw [hm] at hl hi ⊢
  have HM := Lib.hid hm
  clear hm hx ih
  go_enter Try.func63, Try.ntmps63
  go_wp2_with fail
  go_loopw [7, 8] (fun v t wr => ∃ j : Nat, i + j ≤ m ∧ v = .int .i64 (topTo xs u i j : Nat) ∧ t = .int .i64 ((i + j : Nat) : Int) ∧ wr = w) (fun _ t _ => m - (intOf t).toNat)
  case atStart => exact ⟨0, by omega, rfl, rfl, rfl⟩
  case round =>
    obtain ⟨j, hj, rfl, rfl, rfl⟩ := hrel
    by_cases hlt : i + j < m
    · have kx : i + j < xs.length := by have := HM.out; omega
      obtain ⟨b, off, rfl, hbb, g1⟩ := hxs (i + j) _ (natI_at kx)
      have h512 := HX.out _ (getD_mem kx)
      have hle := topTo_le xs u i j
      rw [HM.out] at hle
      have hnext : topTo xs u i (j + 1) = max (topTo xs u i j) (if xs.getD (i + j) 0 &&& u = 0 then 1 + aparts (xs.drop (i + j + 1)) (u ||| xs.getD (i + j) 0) else 0) := rfl
      have hcall := HI.out (i + j + 1) (by omega) (by omega) (u ||| xs.getD (i + j) 0) (some ⟨b, off, none⟩) cap wr (Nat.or_lt_two_pow (n := 9) hu h512) hxs
      rw [HM.out] at hcall
      have hr := aparts_len (xs.drop (i + j + 1)) (u ||| xs.getD (i + j) 0)
      rw [List.length_drop, HM.out] at hr
      have hand := and_i64 h512 hu
      have hor := or_i64 hu h512
      have wk : IntKind.i64.wrap (((i + j : Nat) : Int) + 1) = ((i + j + 1 : Nat) : Int) := by rw [IntWalk.i64_in _ (by omega)]; omega
      have hk : ∀ z, z = i + (j + 1) → z = i + j + 1 := fun z hz => by omega
      generalize aparts (xs.drop (i + j + 1)) (u ||| xs.getD (i + j) 0) = r at *
      generalize xs.getD (i + j) 0 = x at *
      by_cases hd : x &&& u = 0
      · rw [if_pos hd] at hnext
        rw [hd] at hand
        have hMx := max_if (topTo xs u i j) r
        generalize max (topTo xs u i j) (1 + r) = M at *
        have HN := Lib.hid hnext
        clear hnext
        generalize topTo xs u i j = z at *
        generalize u ||| x = y at *
        have w2' : IntKind.i64.wrap (1 + (r : Int)) = ((1 + r : Nat) : Int) := by rw [IntWalk.i64_in _ (by omega)]; omega
        have w3' : wrap64 (1 + (r : Int)) = ((1 + r : Nat) : Int) := by unfold wrap64; omega
        clear hd
        go_wp2_with fail
        refine hcall.mono ?_
        rintro e2 w2 ⟨rfl, rfl⟩
        go_wp2_with fail
        go_roundw
        case rel => first
          | exact ⟨j + 1, by omega, by rw [HN.out], by go_num, by first | rfl | trivial⟩
          | ((repeat apply Exists.intro); refine ⟨⟨j + 1, by omega, ?_, ?_, by first | rfl | trivial⟩, rfl⟩; (· rw [HN.out]); (· go_num))
        case measure => simp [intOf]; try omega
      · rw [if_neg hd, Nat.max_eq_left (Nat.zero_le _)] at hnext
        have HN := Lib.hid hnext
        clear hnext hcall
        generalize topTo xs u i j = z at *
        generalize x &&& u = q at *
        have hq : (((q : Nat) : Int) == 0) = false := by simp; omega
        go_wp2_with fail
        go_roundw
        case rel => exact ⟨j + 1, by omega, by rw [HN.out], by go_num, by first | rfl | trivial⟩
        case measure => simp [intOf]; try omega
    · have hj2 : m - i = j := by omega
      rw [hj2] at HA
      go_wp2_with fail
      go_returns
      exact ⟨retI (by rw [HA.out]), rfl⟩

theorem l4Apart_any (xs : List Nat) (hl : xs.length ≤ 1048576) (hx : ∀ x ∈ xs, x < 512) : ∀ (N i : Nat), i ≤ xs.length → xs.length - i ≤ N → TopOn xs i
  | 0, i, hi, hN => l4Apart_step xs i hi hl hx fun j h1 h2 => by omega
  | N + 1, i, hi, hN => l4Apart_step xs i hi hl hx fun j h1 h2 => l4Apart_any xs hl hx N j h2 (by omega)

theorem specApartPaths_any (n a b : Int) (A : Option Addr) (cap : Nat) (es : List (Int × Int)) (w : World) (hes : EdgesIn w w.heap.size A es) (hl : es.length ≤ 1048576) :
    Calls Try.prog 32 #[.agg #[.int .i64 n, .slice A es.length cap], .int .i64 a, .int .i64 b] w fun e w' => e = .returned (.int .i64 (apartI n es a b)) ∧ Below w.heap.size w w' := by
  have L0 := ArgNet.start (cap := cap) (n := n) 30 hes
  by_cases hok : joinOkB n es a b = true
  · have HOK := Lib.hid hok
    have HV : Hid (apartI n es a b = (aparts (pathsN n es a b) 0 : Nat)) := if_pos hok
    have hlen := pathsN_len n es a b
    have hx : ∀ x ∈ pathsN n es a b, x < 512 := fun x => pathsN_lt
    have HC : Hid (∀ u, EdgesIn u u.heap.size A es → Calls Try.prog 55 #[.agg #[.int .i64 n, .slice A es.length cap], .int .i64 a, .int .i64 b] u (GotInts u (natI (pathsN n es a b)))) := fun u hu => specPathsOf_any n a b A cap es u hu hl
    have HM := Lib.hid (l4Apart_any (pathsN n es a b) (by omega) hx 512 0 (Nat.zero_le _) (by omega))
    generalize pathsN n es a b = xs at *
    clear hok hx
    obtain ⟨_, _, c0, c1, s0⟩ := id L0
    go_enter Try.func32, Try.ntmps32
    go_wp2_with fail
    refine (l4Ends_any _ _ _ _ _ _ _ L0.edges hl).mono ?_
    rintro e1 w1 ⟨rfl, hb1⟩
    rw [HOK.out]
    have L1 := L0.step hb1 L0.lt
    clear hb1 L0 c0 c1 s0
    obtain ⟨_, _, c0, c1, s0⟩ := id L1
    go_wp2_with fail
    refine (HC.out _ L1.edges).mono ?_
    rintro e2 w2 h2
    obtain ⟨A2, k2, rfl, own2, hcap, hb2⟩ := natI_got h2
    have L2 := L1.step hb2 L1.lt
    have hcall := HM.out 0 A2 k2 w2 (by omega) own2.ints
    clear h2 hb2 L1 c0 c1 s0
    go_wp2_with fail
    refine hcall.mono ?_
    rintro e3 w3 ⟨rfl, rfl⟩
    go_wp2_with fail
    go_returns
    exact ⟨retI HV.out.symm, L2.below⟩
  · have HV : Hid (apartI n es a b = -1) := if_neg hok
    have HN : Hid (joinOkB n es a b = false) := by simpa [Hid] using hok
    clear hok
    obtain ⟨_, _, c0, c1, s0⟩ := id L0
    go_enter Try.func32, Try.ntmps32
    go_wp2_with fail
    refine (l4Ends_any _ _ _ _ _ _ _ L0.edges hl).mono ?_
    rintro e1 w1 ⟨rfl, hb1⟩
    rw [HN.out]
    have L1 := L0.step hb1 L0.lt
    go_wp2_with fail
    go_returns
    exact ⟨retI HV.out.symm, L1.below⟩
end Go.Proofs.Ytlcgbmeneajfoac
