/- Whether a state is in a family, how many are, and the family of a list: the program's. -/
import Derived.Test.YtmdmmebekicpkaaImpl8
import Derived.Test.YtmdmmebekicpkaaAllSets
import Derived.Test.YtmdmmebekicpkaaSpec8d
namespace Go.Proofs.Ytmdmmebekicpkaa
open Go.RowKit
set_option maxRecDepth 100000

theorem inI_state {T : Nat} {ns : List Nat} (hT : T ≤ 6) (h : OkN T ns) (s : Int) : famInI (T : Nat) (natI ns) s = (stateB (T : Nat) s && famB ns s.toNat) := by
  unfold famInI stateB sixB
  rw [famOk_of hT h, Bool.true_and, natI_back, decide_eq_true (show (0 : Int) ≤ (T : Nat) by omega), decide_eq_true (show ((T : Nat) : Int) ≤ 6 by omega)]
  simp only [Bool.true_and, Int.toNat_natCast]
  congr 2
  have := Nat.two_pow_pos T
  rw [Bool.eq_iff_iff, decide_eq_true_eq, decide_eq_true_eq]
  omega
theorem stateB_nat {T : Nat} {s : Int} (h : stateB (T : Nat) s = true) : ∃ p : Nat, s = p ∧ p < 2 ^ T := by
  unfold stateB at h
  simp only [Bool.and_eq_true, decide_eq_true_eq, Int.toNat_natCast] at h
  exact ⟨s.toNat, by omega, by omega⟩

set_option maxHeartbeats 1000000 in
theorem inOk_any (t : Int) (A : Option Addr) (c : Nat) (xs : List Int) (s : Int) (w : World) (hin : IntsIn w w.heap.size A xs) (hl : xs.length ≤ 1048576) :
    Calls Try.prog 20 #[.agg #[.int .i64 t, .slice A xs.length c], .int .i64 s] w fun e w' => e = .returned (.bool (famInI t xs s)) ∧ Below w.heap.size w w' := by
  have F0 := ArgFam.start (t := t) (c := c) 27 hin
  obtain ⟨m, hm⟩ : ∃ m, xs.length = m := ⟨_, rfl⟩
  have D0 := BoxFam.of hm F0
  rw [hm] at D0
  have HF : Hid (∀ u, BoxFam w u t A m c xs → Calls Try.prog 22 #[.agg #[.int .i64 t, .slice A m c]] u fun e w' => e = .returned (.bool (famOkB t xs)) ∧ Below u.heap.size u w') := fun u h => by
    rw [← hm]; exact familyOk_any t A c xs u h.2.2.ints hl
  have c0 := D0.1
  have c1 := D0.2.1
  rw [hm]
  cases hL : famOkB t xs with
  | false =>
    rw [hL] at HF
    have HV : Hid (famInI t xs s = false) := by unfold Hid famInI; rw [hL]; rfl
    clear hL hin F0 hl hm
    go_enter Try.func20, Try.ntmps20
    go_wp2_with fail
    refine (HF.out _ D0).mono ?_
    rintro e1 w1 ⟨rfl, hb1⟩
    have D1 := D0.next hb1
    go_wp2_with fail
    go_returns
    exact ⟨retB HV.out.symm, D1.2.2.below⟩
  | true =>
    rw [hL] at HF
    obtain ⟨T, ns, rfl, hT, rfl, hn⟩ := famOkB_iff.1 hL
    have HV := Lib.hid (inI_state hT hn s)
    have hm2 : ns.length = m := by rw [← hm, natI_length]
    have hn64 : m ≤ 64 := by have h1 := hn.len; have h2 := pow_64 hT; omega
    have HS := Lib.hid (stateThings_any (T : Nat) s)
    cases hs : stateB (T : Nat) s with
    | false =>
      rw [hs] at HS
      rw [hs, Bool.false_and] at HV
      clear hL hin F0 hl hm hs hn hm2
      go_enter Try.func20, Try.ntmps20
      go_wp2_with fail
      refine (HF.out _ D0).mono ?_
      rintro e1 w1 ⟨rfl, hb1⟩
      have D1 := D0.next hb1
      have d0 := D1.1
      have d1 := D1.2.1
      clear c0 c1
      go_wp2_with fail
      refine (HS.out _).mono ?_
      rintro e2 w2 ⟨rfl, rfl⟩
      go_wp2_with fail
      go_returns
      exact ⟨retB HV.out.symm, D1.2.2.below⟩
    | true =>
      rw [hs] at HS
      rw [hs, Bool.true_and] at HV
      obtain ⟨p, rfl, hp⟩ := stateB_nat hs
      have hP := pow_64 hT
      rw [Int.toNat_natCast] at HV
      have HH : Hid (∀ u, BoxFam w u (T : Nat) A m c (natI ns) → Calls Try.prog 64 #[.int .i64 (p : Nat), .slice A m c] u fun e w' => e = .returned (.bool (famB ns p)) ∧ Below u.heap.size u w') := fun u h => by
        rw [← hm2]; exact hasSome_any p A c ns u h.2.2.ints (by omega) (fun x hx => by have := hn.lt x hx; omega) (by omega)
      rw [HV.out]
      generalize famB ns p = v at *
      clear hL hin F0 hl hm hs hn hm2 HV hp hP
      go_enter Try.func20, Try.ntmps20
      go_wp2_with fail
      refine (HF.out _ D0).mono ?_
      rintro e1 w1 ⟨rfl, hb1⟩
      have D1 := D0.next hb1
      have d0 := D1.1
      have d1 := D1.2.1
      clear c0 c1
      go_wp2_with fail
      refine (HS.out _).mono ?_
      rintro e2 w2 ⟨rfl, rfl⟩
      go_wp2_with fail
      refine (HH.out _ D1).mono ?_
      rintro e3 w3 ⟨rfl, hb3⟩
      have D3 := D1.next hb3
      go_wp2_with fail
      go_returns
      exact ⟨rfl, D3.2.2.below⟩

set_option maxHeartbeats 1000000 in
theorem from_any (t : Int) (A : Option Addr) (c : Nat) (xs : List Int) (w : World) (hin : IntsIn w w.heap.size A xs) (hl : xs.length ≤ 1048576) :
    Calls Try.prog 16 #[.int .i64 t, .slice A xs.length c] w (GotFam w (fromT t xs) (fromL t xs) (fromOk t xs)) := by
  have D0 := ListAt.start w A xs 27 hin
  have HK := Lib.hid (fromOk_list (t := t) (xs := xs))
  obtain ⟨m, hm⟩ : ∃ m, xs.length = m := ⟨_, rfl⟩
  rw [hm] at HK ⊢
  unfold fromT fromL
  by_cases h64 : m ≤ 64
  · rw [decide_eq_true h64, Bool.true_and] at HK
    have e64 : ((64 : Int) < (m : Int)) = False := eq_false (by omega)
    have HT : Hid (∀ u, ListAt w u A xs → Calls Try.prog 58 #[.int .i64 t, .slice A m c] u fun e w' => e = .returned (.bool (listOkB t xs)) ∧ Below u.heap.size u w') := fun u h => by
      rw [← hm]; exact listThings_any t A c xs u (h.row.more (by have := h.below.size; omega)) (by unfold maxLen; omega)
    obtain ⟨-, -, q0, q1, r0, r1, lt⟩ := id D0
    cases hL : listOkB t xs with
    | false =>
      rw [hL] at HK HT
      rw [HK.out, if_neg (by simp), if_neg (by simp)]
      clear hin hl hm hL
      go_enter Try.func16, Try.ntmps16
      go_wp2_with fail
      refine (HT.out _ D0).mono ?_
      rintro e1 w1 ⟨rfl, hb1⟩
      have D1 := D0.next hb1
      clear q0 q1 r0 r1 lt D0
      obtain ⟨-, fb, q0, q1, r0, r1, lt⟩ := id D1
      go_wp2_with fail
      refine bodyPost_ret (v := .tuple #[.agg #[.int .i64 0, .slice none 0 0], .bool false]) (by simp [results, Try.results16, go_sem, *]) rfl ?_
      exact ⟨none, 0, rfl, OwnI.nil _ _, (fb.setCell (p := ⟨w.heap.size, 0, none⟩) (by simp) _).setCell (p := ⟨w.heap.size, 1, none⟩) (by simp) _⟩
    | true =>
      rw [hL] at HK HT
      rw [HK.out, if_pos rfl, if_pos rfl]
      obtain ⟨T, ls, rfl, hT, rfl, hls⟩ := listOk_iff.1 hL
      have hm2 : ls.length = m := by rw [← hm, natI_length]
      have HO : Hid (∀ u, ListAt w u A (natI ls) → Calls Try.prog 59 #[.int .i64 (T : Nat), .slice A m c] u (MadeFam u (T : Nat) (natI (famOf T ls)))) := fun u h =>
        familyOf_any T (T : Nat) A c m ls u (by omega) (h.row.more (by have := h.below.size; omega)) hm2 (by omega) hls
      rw [natOf_natI, Int.toNat_natCast]
      generalize natI (famOf T ls) = R at *
      generalize natI ls = zs at *
      clear hin hl hm hL hls hm2
      go_enter Try.func16, Try.ntmps16
      go_wp2_with fail
      refine (HT.out _ D0).mono ?_
      rintro e1 w1 ⟨rfl, hb1⟩
      have D1 := D0.next hb1
      clear q0 q1 r0 r1 lt D0
      go_wp2_with fail
      refine (HO.out _ D1).mono ?_
      rintro e2 w2 ⟨A2, c2, rfl, own, hb2⟩
      have D2 := D1.next hb2
      have lt1 := D1.lt
      obtain ⟨-, fb, q0, q1, r0, r1, lt⟩ := id D2
      have hge := own.ge
      go_wp2_with fail
      refine bodyPost_ret (v := .tuple #[.agg #[.int .i64 (T : Nat), .slice A2 R.length c2], .bool true]) (by simp [results, Try.results16, go_sem, *]) rfl ?_
      refine ⟨A2, c2, rfl, OwnI.far (OwnI.far (own.more (by omega)) ?_ _) ?_ _, (fb.setCell (p := ⟨w.heap.size, 0, none⟩) (by simp) _).setCell (p := ⟨w.heap.size, 1, none⟩) (by simp) _⟩
      · intro k hk; have := hge k hk; simp; omega
      · intro k hk; have := hge k hk; simp; omega
  · rw [decide_eq_false h64, Bool.false_and] at HK
    have e64 : ((64 : Int) < (m : Int)) = True := eq_true (by omega)
    rw [HK.out, if_neg (by simp), if_neg (by simp)]
    obtain ⟨-, fb, q0, q1, r0, r1, lt⟩ := id D0
    clear hin hl hm h64
    go_enter Try.func16, Try.ntmps16
    go_wp2_with fail
    refine bodyPost_ret (v := .tuple #[.agg #[.int .i64 0, .slice none 0 0], .bool false]) (by simp [results, Try.results16, go_sem, *]) rfl ?_
    exact ⟨none, 0, rfl, OwnI.nil _ _, by go_grown⟩
end Go.Proofs.Ytmdmmebekicpkaa

/- How many states are in a family, and what blocks it: the program's. -/
namespace Go.Proofs.Ytmdmmebekicpkaa
open Go.RowKit
set_option maxRecDepth 100000

theorem countOne_any (t : Int) (A : Option Addr) (c m p : Nat) (ns : List Nat) (w u : World) (D : BoxFam w u t A m c (natI ns)) (hm : ns.length = m) (hl : m ≤ 1048576) (hns : ∀ x ∈ ns, x ≤ 8192) (hp : p ≤ 8192) :
    Calls Try.prog 75 #[.int .i64 p, .pointer (some ⟨w.heap.size, 0, none⟩)] u fun e w' => e = .returned (.bool (famB ns p)) ∧ Below u.heap.size u w' := by
  have H := hasSome_any p A c ns u D.2.2.ints (by omega) hns hp
  rw [hm] at H
  have H := Lib.hid H
  have c1 := D.2.1
  generalize famB ns p = v at *
  go_enter Try.func75, Try.ntmps75
  go_wp2_with fail
  refine H.out.mono ?_
  rintro e1 w1 ⟨rfl, hb⟩
  go_wp2_with fail
  go_returns
  exact ⟨rfl, hb⟩

theorem famTo_filter (ns : List Nat) (P : Nat) : ((List.range P).filter (famB ns)).length = famTo ns P := by
  unfold famTo; rw [List.countP_eq_length_filter]

set_option maxHeartbeats 2000000 in
theorem countIn_any (t : Int) (A : Option Addr) (c : Nat) (xs : List Int) (w : World) (hin : IntsIn w w.heap.size A xs) (hl : xs.length ≤ 1048576) :
    Calls Try.prog 26 #[.agg #[.int .i64 t, .slice A xs.length c]] w fun e w' => e = .returned (.int .i64 (famCountI t xs)) ∧ Below w.heap.size w w' := by
  have hmf : ∀ (fn : Fn) (first cap : Array Value) (w : World), (Instr.makeFunc fn first cap).run Try.prog w = .ok (.func fn first cap) w := fun _ _ _ _ => rfl
  have F0 := ArgFam.start (t := t) (c := c) 27 hin
  obtain ⟨m, hm⟩ : ∃ m, xs.length = m := ⟨_, rfl⟩
  have D0 := BoxFam.of hm F0
  rw [hm] at D0
  have HF : Hid (∀ u, BoxFam w u t A m c xs → Calls Try.prog 22 #[.agg #[.int .i64 t, .slice A m c]] u fun e w' => e = .returned (.bool (famOkB t xs)) ∧ Below u.heap.size u w') := fun u h => by
    rw [← hm]; exact familyOk_any t A c xs u h.2.2.ints hl
  have c0 := D0.1
  have c1 := D0.2.1
  rw [hm]
  cases hL : famOkB t xs with
  | false =>
    rw [hL] at HF
    have HV : Hid (famCountI t xs = -1) := by unfold Hid famCountI; rw [hL]; rfl
    clear hL hin F0 hl hm
    go_enter Try.func26, Try.ntmps26
    go_wp2_with fail
    refine (HF.out _ D0).mono ?_
    rintro e1 w1 ⟨rfl, hb1⟩
    have D1 := D0.next hb1
    go_wp2_with fail
    go_returns
    exact ⟨retI HV.out.symm, D1.2.2.below⟩
  | true =>
    rw [hL] at HF
    obtain ⟨T, ns, rfl, hT, rfl, hn⟩ := famOkB_iff.1 hL
    have hm2 : ns.length = m := by rw [← hm, natI_length]
    have hP := pow_64 hT
    have HV : Hid (((((List.range (2 ^ T)).filter (famB ns)).length : Nat) : Int) = famCountI (T : Nat) (natI ns)) := by
      unfold Hid famCountI
      rw [hL, if_pos rfl, natI_back, famTo_filter]; rfl
    have HS : Hid (∀ u A2 c2, BoxFam w u (T : Nat) A m c (natI ns) → IntsIn u u.heap.size A2 (natI (List.range (2 ^ T))) → Calls Try.prog 73 #[.slice A2 (natI (List.range (2 ^ T))).length c2, .func (.func 75) #[] #[.pointer (some ⟨w.heap.size, 0, none⟩)]] u (GotInts u (natI ((List.range (2 ^ T)).filter (famB ns))))) := fun u A2 c2 h hi => by
      have := sieve_any 75 #[.pointer (some ⟨w.heap.size, 0, none⟩)] (fun x => famB ns x.toNat) A2 c2 (natI (List.range (2 ^ T))) u hi (by rw [natI_length, List.length_range]; omega)
        (fun _ _ => rfl) (fun v hv x hx => by
          obtain ⟨p, hp, rfl⟩ := List.mem_map.1 hx
          have hp := List.mem_range.1 hp
          exact countOne_any (T : Nat) A c m p ns w v (h.next hv) hm2 (by omega) (fun x hx => by have := hn.lt x hx; omega) (by omega))
      rw [natI_filter] at this
      exact this
    have HLN : Hid ((natI ((List.range (2 ^ T)).filter (famB ns))).length = ((List.range (2 ^ T)).filter (famB ns)).length) := natI_length _
    have HA : Hid (∀ u, Calls Try.prog 74 #[.int .i64 (T : Nat)] u (GotInts u (natI (List.range (2 ^ T))))) := fun u => allSets_any T u (by omega)
    rw [← HV.out]
    generalize natI ((List.range (2 ^ T)).filter (famB ns)) = R at *
    generalize natI (List.range (2 ^ T)) = zs at *
    generalize ((List.range (2 ^ T)).filter (famB ns)).length = r at *
    generalize natI ns = nx at *
    clear hL hin F0 hl hm hn hm2 HV hP
    go_enter Try.func26, Try.ntmps26
    go_wp2_with fail
    refine (HF.out _ D0).mono ?_
    rintro e1 w1 ⟨rfl, hb1⟩
    have D1 := D0.next hb1
    have d0 := D1.1
    have d1 := D1.2.1
    clear c0 c1
    go_wp2_with fail
    refine (HA.out _).mono ?_
    rintro e2 w2 ⟨A2, c2, rfl, own2, hb2⟩
    have D2 := D1.next hb2
    go_wp2_with fail
    refine (HS.out _ _ _ D2 own2.ints).mono ?_
    rintro e3 w3 ⟨A3, c3, rfl, own3, hb3⟩
    have D3 := D2.next hb3
    rw [HLN.out]
    go_wp2_with fail
    go_returns
    exact ⟨rfl, D3.2.2.below⟩

theorem blockTwo_any (s p g : Nat) (u : World) (hc : u.cell? ⟨g, 0, none⟩ = some (.int .i64 s)) (hs : s ≤ 8192) (hp : p ≤ 8192) :
    Calls Try.prog 78 #[.int .i64 p, .pointer (some ⟨g, 0, none⟩)] u fun e w' => e = .returned (.bool (decide (s &&& p = 0))) ∧ Below u.heap.size u w' := by
  have H := Lib.hid (apart_any s p hs hp u)
  generalize decide (s &&& p = 0) = v at *
  go_enter Try.func78, Try.ntmps78
  go_wp2_with fail
  refine H.out.mono ?_
  rintro e1 w1 ⟨rfl, rfl⟩
  go_wp2_with fail
  go_returns
  exact ⟨rfl, Below.refl _ _⟩
theorem miss_none (ns : List Nat) (s : Nat) : decide (ns.filter (fun p => decide (s &&& p = 0)) = []) = hitAll ns s := by
  rw [Bool.eq_iff_iff, decide_eq_true_eq, List.filter_eq_nil_iff]
  unfold hitAll
  rw [List.all_eq_true]
  refine forall_congr' fun p => forall_congr' fun _ => ?_
  rw [Nat.and_comm]; simp

set_option maxHeartbeats 1000000 in
theorem blockOne_any (t : Int) (A : Option Addr) (c m s : Nat) (ns : List Nat) (w u : World) (D : BoxFam w u t A m c (natI ns)) (hm : ns.length = m) (hl : m ≤ 1048576) (hns : ∀ x ∈ ns, x ≤ 8192) (hs : s ≤ 8192) :
    Calls Try.prog 77 #[.int .i64 s, .pointer (some ⟨w.heap.size, 0, none⟩)] u fun e w' => e = .returned (.bool (hitAll ns s)) ∧ Below u.heap.size u w' := by
  have hmf : ∀ (fn : Fn) (first cap : Array Value) (w : World), (Instr.makeFunc fn first cap).run Try.prog w = .ok (.func fn first cap) w := fun _ _ _ _ => rfl
  have hb := (Below.refl u.heap.size u).alloc (Nat.le_refl _) (.cells #[.int .i64 s] 3)
  have c0 : (u.alloc (.cells #[.int .i64 s] 3)).cell? ⟨u.heap.size, 0, none⟩ = some (.int .i64 s) := by rw [World.cell?_alloc_at _ _ _ _ rfl]; rfl
  have D1 := D.next hb
  have HS := sieve_any 78 #[.pointer (some ⟨u.heap.size, 0, none⟩)] (fun x => decide (s &&& x.toNat = 0)) A c (natI ns) (u.alloc (.cells #[.int .i64 s] 3)) D1.2.2.ints (by rw [natI_length]; omega)
    (fun _ _ => rfl) (fun v hv x hx => by
      obtain ⟨p, hp, rfl⟩ := List.mem_map.1 hx
      exact blockTwo_any s p u.heap.size v ((hv.cell (p := ⟨u.heap.size, 0, none⟩) (by simp)).trans c0) hs (hns p hp))
  rw [natI_length, hm, natI_filter] at HS
  have ef : (ns.filter fun x : Nat => decide (s &&& ((x : Nat) : Int).toNat = 0)) = ns.filter fun p => decide (s &&& p = 0) := rfl
  rw [ef] at HS
  have HM := Lib.hid (miss_none ns s)
  generalize hfs : (ns.filter fun p => decide (s &&& p = 0)) = fs at *
  generalize hitAll ns s = v at *
  have HS := Lib.hid HS
  have lt0 := D.2.2.lt
  have c1 := D1.2.1
  clear c0 ef hfs
  go_enter Try.func77, Try.ntmps77
  go_wp2_with fail
  refine HS.out.mono ?_
  rintro e1 w1 ⟨A1, k1, rfl, own1, hb1⟩
  have hb2 := hb.trans (hb1.mono (by simp))
  rw [natI_length]
  cases fs with
  | nil =>
    have HV : Hid (v = true) := by rw [Hid, ← HM.out]; rfl
    clear HM HS own1
    go_wp2_with fail
    go_returns
    exact ⟨retB (by rw [HV.out]), hb2⟩
  | cons y ys =>
    have HV : Hid (v = false) := by rw [Hid, ← HM.out]; rfl
    have hne : (((y :: ys).length : Int) = 0) = False := eq_false (by simp; omega)
    have hne2 : (((y :: ys).length : Int) == 0) = false := by simp; omega
    clear HM HS own1
    generalize (y :: ys).length = k at *
    go_wp2_with fail
    go_returns
    exact ⟨retB (by rw [HV.out]), hb2⟩

set_option maxHeartbeats 2000000 in
theorem blocker_any (t : Int) (A : Option Addr) (c : Nat) (xs : List Int) (w : World) (hin : IntsIn w w.heap.size A xs) (hl : xs.length ≤ 1048576) :
    Calls Try.prog 30 #[.agg #[.int .i64 t, .slice A xs.length c]] w (GotFam w (blT t xs) (blL t xs) (famOkB t xs)) := by
  have hmf : ∀ (fn : Fn) (first cap : Array Value) (w : World), (Instr.makeFunc fn first cap).run Try.prog w = .ok (.func fn first cap) w := fun _ _ _ _ => rfl
  have D0 := OneAt.start w t A c xs 27 hin
  obtain ⟨m, hm⟩ : ∃ m, xs.length = m := ⟨_, rfl⟩
  have HF : Hid (∀ u, OneAt w u t A c xs → Calls Try.prog 22 #[.agg #[.int .i64 t, .slice A m c]] u fun e w' => e = .returned (.bool (famOkB t xs)) ∧ Below u.heap.size u w') := fun u h => by
    rw [← hm]; exact familyOk_any t A c xs u h.f.ints hl
  have HB : Hid (∀ u, OneAt w u t A c xs → BoxFam w u t A m c xs) := fun u h => BoxFam.of hm h.f
  rw [hm] at D0
  cases hL : famOkB t xs with
  | false =>
    rw [hL] at HF
    unfold blT blL
    rw [hL, if_neg (by simp), if_neg (by simp), hm]
    obtain ⟨-, q0, q1, r0, r1, lt⟩ := id D0
    obtain ⟨f0, f1, -⟩ := HB.out _ D0
    clear hL hin hl hm
    go_enter Try.func30, Try.ntmps30
    go_wp2_with fail
    refine (HF.out _ D0).mono ?_
    rintro e1 w1 ⟨rfl, hb1⟩
    have D1 := D0.next hb1
    clear q0 q1 r0 r1 lt f0 f1 D0
    obtain ⟨⟨-, -, -, fb, -, -⟩, q0, q1, r0, r1, lt⟩ := id D1
    go_wp2_with fail
    refine bodyPost_ret (v := .tuple #[.agg #[.int .i64 0, .slice none 0 0], .bool false]) (by simp [results, Try.results30, go_sem, *]) rfl ?_
    exact ⟨none, 0, rfl, OwnI.nil _ _, (fb.setCell (p := ⟨w.heap.size + 1, 0, none⟩) (by simp) _).setCell (p := ⟨w.heap.size + 1, 1, none⟩) (by simp) _⟩
  | true =>
    rw [hL] at HF
    obtain ⟨T, ns, rfl, hT, rfl, hn⟩ := famOkB_iff.1 hL
    rw [blL_of hT hn]
    unfold blT
    rw [hL, if_pos rfl, hm]
    have hm2 : ns.length = m := by rw [← hm, natI_length]
    have hP := pow_64 hT
    have HS : Hid (∀ u A2 c2, OneAt w u (T : Nat) A c (natI ns) → IntsIn u u.heap.size A2 (natI (List.range (2 ^ T))) → Calls Try.prog 73 #[.slice A2 (natI (List.range (2 ^ T))).length c2, .func (.func 77) #[] #[.pointer (some ⟨w.heap.size, 0, none⟩)]] u (GotInts u (natI ((List.range (2 ^ T)).filter (hitAll ns))))) := fun u A2 c2 h hi => by
      have := sieve_any 77 #[.pointer (some ⟨w.heap.size, 0, none⟩)] (fun x => hitAll ns x.toNat) A2 c2 (natI (List.range (2 ^ T))) u hi (by rw [natI_length, List.length_range]; omega)
        (fun _ _ => rfl) (fun v hv x hx => by
          obtain ⟨p, hp, rfl⟩ := List.mem_map.1 hx
          have hp := List.mem_range.1 hp
          exact blockOne_any (T : Nat) A c m p ns w v ((HB.out u h).next hv) hm2 (by omega) (fun x hx => by have := hn.lt x hx; omega) (by omega))
      rw [natI_filter] at this
      exact this
    have hbl := bl_of (T := T) hn.lt
    have hlt8 : ∀ x ∈ (List.range (2 ^ T)).filter (hitAll ns), x < 2 ^ T := fun x hx => List.mem_range.1 (List.mem_filter.1 hx).1
    have hlen8 : ((List.range (2 ^ T)).filter (hitAll ns)).length ≤ 64 := Nat.le_trans (List.length_filter_le _ _) (by rw [List.length_range]; exact hP)
    have HO : Hid (∀ u A2 c2, IntsIn u u.heap.size A2 (natI ((List.range (2 ^ T)).filter (hitAll ns))) → Calls Try.prog 59 #[.int .i64 (T : Nat), .slice A2 (natI ((List.range (2 ^ T)).filter (hitAll ns))).length c2] u (MadeFam u (T : Nat) (natI (famBl T ns)))) := fun u A2 c2 h => by
      rw [← hbl]; exact familyOf_any T (T : Nat) A2 c2 _ _ u (by omega) h (natI_length _).symm (by rw [natI_length]; omega) hlt8
    have HA : Hid (∀ u, Calls Try.prog 74 #[.int .i64 (T : Nat)] u (GotInts u (natI (List.range (2 ^ T))))) := fun u => allSets_any T u (by omega)
    generalize natI (famBl T ns) = R at *
    clear hbl hlt8 hlen8 hL hin hl hm hn hm2 hP
    generalize natI ((List.range (2 ^ T)).filter (hitAll ns)) = zs2 at *
    generalize natI (List.range (2 ^ T)) = zs at *
    generalize natI ns = nx at *
    obtain ⟨-, q0, q1, r0, r1, lt⟩ := id D0
    obtain ⟨f0, f1, -⟩ := HB.out _ D0
    go_enter Try.func30, Try.ntmps30
    go_wp2_with fail
    refine (HF.out _ D0).mono ?_
    rintro e1 w1 ⟨rfl, hb1⟩
    have D1 := D0.next hb1
    clear q0 q1 r0 r1 lt f0 f1 D0
    obtain ⟨f0, f1, -⟩ := HB.out _ D1
    go_wp2_with fail
    refine (HA.out _).mono ?_
    rintro e2 w2 ⟨A2, c2, rfl, own2, hb2⟩
    have D2 := D1.next hb2
    clear f0 f1
    go_wp2_with fail
    refine (HS.out _ _ _ D2 own2.ints).mono ?_
    rintro e3 w3 ⟨A3, c3, rfl, own3, hb3⟩
    have D3 := D2.next hb3
    obtain ⟨f0, f1, -⟩ := HB.out _ D3
    have hi3 := own3.ints
    go_wp2_with fail
    refine (HO.out _ _ _ hi3).mono ?_
    rintro e4 w4 ⟨A4, c4, rfl, own4, hb4⟩
    have lt3 := D3.lt
    have D4 := D3.next hb4
    clear f0 f1
    obtain ⟨⟨-, -, -, fb, -, -⟩, q0, q1, r0, r1, lt⟩ := id D4
    have hge := own4.ge
    go_wp2_with fail
    refine bodyPost_ret (v := .tuple #[.agg #[.int .i64 (T : Nat), .slice A4 R.length c4], .bool true]) (by simp [results, Try.results30, go_sem, *]) rfl ?_
    refine ⟨A4, c4, rfl, OwnI.far (OwnI.far (own4.more (by omega)) ?_ _) ?_ _, (fb.setCell (p := ⟨w.heap.size + 1, 0, none⟩) (by simp) _).setCell (p := ⟨w.heap.size + 1, 1, none⟩) (by simp) _⟩
    · intro k hk; have := hge k hk; simp; omega
    · intro k hk; have := hge k hk; simp; omega
end Go.Proofs.Ytmdmmebekicpkaa
