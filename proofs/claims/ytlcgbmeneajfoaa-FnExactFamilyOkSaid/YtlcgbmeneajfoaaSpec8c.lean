/- Families of the reference: InOk. -/
import Derived.Test.YtlcgbmeneajfoaaSpec8b
namespace Go.Proofs.Ytlcgbmeneajfoaa
open Go.RowKit
set_option maxRecDepth 100000

theorem asc_len : ∀ (ns : List Nat) (lo m : Nat), ns.Pairwise (· < ·) → (∀ n ∈ ns, lo ≤ n ∧ n < m) → lo ≤ m → lo + ns.length ≤ m
  | [], lo, m, _, _, h => h
  | x :: r, lo, m, hp, hb, hm => by
    rw [List.pairwise_cons] at hp
    have hx := hb x (by simp)
    have := asc_len r (x + 1) m hp.2 (fun n hn => ⟨hp.1 n hn, (hb n (List.mem_cons_of_mem _ hn)).2⟩) (by omega)
    simp only [List.length_cons]; omega
theorem OkN.len {T : Nat} {ns : List Nat} (h : OkN T ns) : ns.length ≤ 2 ^ T := by
  have := asc_len ns 0 (2 ^ T) h.asc (fun n hn => ⟨Nat.zero_le _, h.lt n hn⟩) (Nat.zero_le _)
  omega
theorem pow_64 {T : Nat} (h : T ≤ 6) : 2 ^ T ≤ 64 := Nat.pow_le_pow_right (n := 2) (by omega) h
/-- Whether a state is in a family. -/
def famInI (t : Int) (xs : List Int) (s : Int) : Bool := famOkB t xs && ((decide (0 ≤ s) && decide (s ≤ (2 ^ t.toNat : Nat) - 1)) && famB (xs.map Int.toNat) s.toNat)
theorem natI_back (ns : List Nat) : (natI ns).map Int.toNat = ns := by
  rw [natI, List.map_map]
  conv => rhs; rw [← List.map_id ns]
  exact List.map_congr_left fun x _ => rfl

set_option maxHeartbeats 4000000 in
theorem specInOk_any (t : Int) (A : Option Addr) (cap : Nat) (xs : List Int) (s : Int) (w : World) (hin : IntsIn w w.heap.size A xs) (hl : xs.length ≤ maxLen) :
    Calls Try.prog 19 #[.agg #[.int .i64 t, .slice A xs.length cap], .int .i64 s] w fun e w' => e = .returned (.bool (famInI t xs s)) ∧ Below w.heap.size w w' := by
  unfold famInI
  have L0 := ArgFam.start (t := t) (c := cap) 27 hin
  cases hF : famOkB t xs with
  | false =>
    have HF := Lib.hid hF
    obtain ⟨c0, c1, _, _, _, _⟩ := id L0
    go_enter Try.func19, Try.ntmps19
    go_wp2_with fail
    refine (specFamilyOk_any _ _ _ _ _ L0.ints hl).mono ?_
    rintro e1 w1 ⟨rfl, hb1⟩
    rw [HF.out]
    go_wp2_with fail
    go_returns
    exact ⟨rfl, L0.below.trans (hb1.mono (by simp))⟩
  | true =>
    have HF := Lib.hid hF
    obtain ⟨T, ns, rfl, hT6, rfl, hok⟩ := famOkB_iff.1 hF
    have h64 := pow_64 hT6
    have hlen := hok.len
    have HLT : Hid (∀ x ∈ ns, x ≤ 8192) := fun x hx => by have := hok.lt x hx; omega
    obtain ⟨P, hP, p1, p2, hp3, hp4⟩ := pow_named12 (show T ≤ 13 by omega)
    have wP1 : IntKind.i64.wrap ((P : Int) - 1) = (P : Int) - 1 := IntWalk.i64_in _ (by omega)
    rw [natI_back, show ((T : Nat) : Int).toNat = T from rfl, hP, Bool.true_and]
    rw [hP] at h64 hlen
    clear hF hP hok hin
    cases hS : (decide (0 ≤ s) && decide (s ≤ (P : Int) - 1)) with
    | false =>
      have HS := Lib.hid hS
      clear hS
      obtain ⟨c0, c1, _, _, _, _⟩ := id L0
      go_enter Try.func19, Try.ntmps19
      go_wp2_with fail
      refine (specFamilyOk_any _ _ _ _ _ L0.ints hl).mono ?_
      rintro e1 w1 ⟨rfl, hb1⟩
      rw [HF.out]
      have L1 := L0.step hb1 L0.lt
      clear L0 c0 c1 hb1
      obtain ⟨c0, c1, _, _, _, _⟩ := id L1
      go_wp2_with fail
      refine (l1In_any _ _ _ _).mono ?_
      rintro e2 w2 ⟨rfl, rfl⟩
      rw [HS.out]
      go_wp2_with fail
      go_returns
      exact ⟨rfl, L1.below⟩
    | true =>
      have HS := Lib.hid hS
      obtain ⟨m, rfl⟩ : ∃ m : Nat, s = m := ⟨s.toNat, by simp at hS; omega⟩
      have hm : m ≤ 8192 := by simp at hS; omega
      rw [show ((m : Nat) : Int).toNat = m from rfl, Bool.true_and]
      have HFB : Hid (∀ u, IntsIn u u.heap.size A (natI ns) → Calls Try.prog 49 #[.agg #[.int .i64 T, .slice A (natI ns).length cap], .int .i64 m] u fun e w' => e = .returned (.bool (famB ns m)) ∧ Below u.heap.size u w') := fun u h => by
        rw [natI_length]; exact l8In_any T A cap ns m u h (by omega) HLT.out hm
      generalize famB ns m = v at *
      clear hS HLT
      obtain ⟨c0, c1, _, _, _, _⟩ := id L0
      go_enter Try.func19, Try.ntmps19
      go_wp2_with fail
      refine (specFamilyOk_any _ _ _ _ _ L0.ints hl).mono ?_
      rintro e1 w1 ⟨rfl, hb1⟩
      rw [HF.out]
      have L1 := L0.step hb1 L0.lt
      clear L0 c0 c1 hb1
      obtain ⟨c0, c1, _, _, _, _⟩ := id L1
      go_wp2_with fail
      refine (l1In_any _ _ _ _).mono ?_
      rintro e2 w2 ⟨rfl, rfl⟩
      rw [HS.out]
      go_wp2_with fail
      refine (HFB.out _ L1.ints).mono ?_
      rintro e3 w3 ⟨rfl, hb3⟩
      go_wp2_with fail
      go_returns
      exact ⟨rfl, L1.below.trans (hb3.mono L1.below.size)⟩

/-- How many of the first s states are in a family. -/
def famTo (ns : List Nat) (s : Nat) : Nat := (List.range s).countP (famB ns)
theorem famTo_succ (ns : List Nat) (s : Nat) : famTo ns (s + 1) = famTo ns s + if famB ns s = true then 1 else 0 := by
  rw [famTo, List.range_succ, List.countP_append, famTo]
  cases h : famB ns s <;> simp [h]
theorem famTo_le (ns : List Nat) (s : Nat) : famTo ns s ≤ s := by
  have := List.countP_le_length (p := famB ns) (l := List.range s)
  rw [List.length_range] at this; exact this
def famCountI (t : Int) (xs : List Int) : Int := if famOkB t xs = true then (famTo (xs.map Int.toNat) (2 ^ t.toNat) : Nat) else -1

set_option maxHeartbeats 4000000 in
theorem specCountIn_any (t : Int) (A : Option Addr) (cap : Nat) (xs : List Int) (w : World) (hin : IntsIn w w.heap.size A xs) (hl : xs.length ≤ maxLen) :
    Calls Try.prog 28 #[.agg #[.int .i64 t, .slice A xs.length cap]] w fun e w' => e = .returned (.int .i64 (famCountI t xs)) ∧ Below w.heap.size w w' := by
  unfold famCountI
  have L0 := ArgFam.start (t := t) (c := cap) 27 hin
  cases hF : famOkB t xs with
  | false =>
    have HF := Lib.hid hF
    obtain ⟨c0, c1, _, _, _, _⟩ := id L0
    go_enter Try.func28, Try.ntmps28
    go_wp2_with fail
    refine (specFamilyOk_any _ _ _ _ _ L0.ints hl).mono ?_
    rintro e1 w1 ⟨rfl, hb1⟩
    rw [HF.out]
    go_wp2_with fail
    go_returns
    exact ⟨rfl, L0.below.trans (hb1.mono (by simp))⟩
  | true =>
    have HF := Lib.hid hF
    obtain ⟨T, ns, rfl, hT6, rfl, hok⟩ := famOkB_iff.1 hF
    have h64 := pow_64 hT6
    have hlen := hok.len
    have HLT : Hid (∀ x ∈ ns, x ≤ 8192) := fun x hx => by have := hok.lt x hx; omega
    obtain ⟨P, hP, p1, p2, hp3, hp4⟩ := pow_named12 (show T ≤ 13 by omega)
    rw [natI_back, show ((T : Nat) : Int).toNat = T from rfl, hP, if_pos rfl]
    rw [hP] at h64 hlen
    clear hF hP hok hin
    have HFB : Hid (∀ (s : Nat) u, s ≤ P → IntsIn u u.heap.size A (natI ns) → Calls Try.prog 49 #[.agg #[.int .i64 T, .slice A (natI ns).length cap], .int .i64 s] u fun e w' => e = .returned (.bool (famB ns s)) ∧ Below u.heap.size u w') := fun s u hs h => by
      rw [natI_length]; exact l8In_any T A cap ns s u h (by omega) HLT.out (by omega)
    clear HLT
    obtain ⟨v, hv⟩ : ∃ v, famTo ns P = v := ⟨_, rfl⟩
    have HV := Lib.hid hv
    rw [hv]
    clear hv
    obtain ⟨c0, c1, _, _, _, _⟩ := id L0
    go_enter Try.func28, Try.ntmps28
    go_wp2_with fail
    refine (specFamilyOk_any _ _ _ _ _ L0.ints hl).mono ?_
    rintro e1 w1 ⟨rfl, hb1⟩
    rw [HF.out]
    have L1 := L0.step hb1 L0.lt
    clear L0 c0 c1 hb1
    go_wp2_with fail
    go_loopw [3, 4] (fun v t wr => ∃ s : Nat, s ≤ P ∧ t = .int .i64 (s : Nat) ∧ v = .int .i64 (famTo ns s : Nat) ∧ ArgFam w wr w.heap.size T A cap (natI ns)) (fun _ t _ => P - (intOf t).toNat)
    case atStart => exact ⟨0, by omega, rfl, rfl, L1⟩
    case round =>
      clear L1
      obtain ⟨s, hs, rfl, rfl, L⟩ := hrel
      obtain ⟨c0, c1, _, _, _, _⟩ := id L
      by_cases hlt : s < P
      · have hle := famTo_le ns s
        have HX := Lib.hid (famTo_succ ns s)
        have hcall := HFB.out s wr hs L.ints
        have HL := Lib.hid L
        generalize hy : famTo ns s = y at *
        clear hy L
        have sP : (s : Int) < (P : Int) := by omega
        have wy : IntKind.i64.wrap ((y : Int) + 1) = ((y + 1 : Nat) : Int) := by rw [IntWalk.i64_in _ (by omega)]; omega
        cases hv : famB ns s with
        | true =>
          rw [hv] at hcall
          rw [hv, if_pos rfl] at HX
          clear hv
          go_wp2_with fail
          refine hcall.mono ?_
          clear hcall
          rintro e2 w2 ⟨rfl, hb2⟩
          have L2 := HL.out.next hb2
          go_wp2_with fail
          go_roundw
          case rel => exact ⟨s + 1, by omega, by go_num, by rw [HX.out]; simp, L2⟩
          case measure => simp [intOf]; omega
        | false =>
          rw [hv] at hcall
          rw [hv, if_neg (by simp), Nat.add_zero] at HX
          clear hv
          go_wp2_with fail
          refine hcall.mono ?_
          clear hcall
          rintro e2 w2 ⟨rfl, hb2⟩
          have L2 := HL.out.next hb2
          go_wp2_with fail
          go_roundw
          case rel => exact ⟨s + 1, by omega, by go_num, by rw [HX.out]; simp, L2⟩
          case measure => simp [intOf]; omega
      · obtain rfl : s = P := by omega
        go_wp2_with fail
        go_returns
        exact ⟨retI (by rw [HV.out]), L.below⟩
end Go.Proofs.Ytlcgbmeneajfoaa
