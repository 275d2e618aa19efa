/- The law FnInOk holds of every code: a state with one thing more is in the family too, each least state is, and less any of its things it is not. -/
import Derived.Test.YtlcgbmeneajfoaaBytes
import Derived.Test.YtlcgbmeneajfoaaDrawInOk
import Derived.Test.YtlcgbmeneajfoaaImpl8f
import Derived.Test.YtlcgbmeneajfoaaFamO
import Derived.Test.YtlcgbmeneajfoaaClass
namespace Go.Proofs.Ytlcgbmeneajfoaa
open Go.RowKit
set_option maxRecDepth 100000

theorem inI_more {T : Nat} {ns : List Nat} {s : Int} {k : Nat} (hT : T ≤ 6) (hn : OkN T ns) (h : famInI (T : Nat) (natI ns) s = true) (hk : k < T) : famInI (T : Nat) (natI ns) (Go.bits .or .i64 s ((2 ^ k : Nat) : Int)) = true := by
  unfold famInI at h
  rw [Bool.and_eq_true, Bool.and_eq_true, Bool.and_eq_true, decide_eq_true_eq, decide_eq_true_eq, natI_back, Int.toNat_natCast] at h
  obtain ⟨_, ⟨h1, h2⟩, h3⟩ := h
  obtain ⟨p, rfl⟩ : ∃ p : Nat, s = p := ⟨s.toNat, by omega⟩
  rw [Int.toNat_natCast] at h3
  have hp : p < 2 ^ T := by omega
  have hP := pow_64 hT
  have hK : 2 ^ k < 2 ^ T := Nat.pow_lt_pow_right (by omega) hk
  rw [or_small (by omega) (by omega), inI_of hT hn (Nat.or_lt_two_pow hp hK)]
  exact more_has hp hk h3
theorem inI_less {T : Nat} {ns : List Nat} {p k : Nat} (hT : T ≤ 6) (hn : OkN T ns) (hp : p ∈ ns) (hk : p.testBit k = true) : famInI (T : Nat) (natI ns) ((p : Int) - ((2 ^ k : Nat) : Int)) = false := by
  have h2 : 2 ^ k ≤ p := Nat.le_of_not_lt fun hlt => by rw [Nat.testBit_lt_two_pow hlt] at hk; cases hk
  have hl := hn.lt p hp
  rw [show (p : Int) - ((2 ^ k : Nat) : Int) = ((p - 2 ^ k : Nat) : Int) by omega, inI_of hT hn (Nat.lt_of_le_of_lt (Nat.sub_le _ _) hl)]
  exact least_not (by omega) hn hp hk
theorem inI_has {T : Nat} {ns : List Nat} {p : Nat} (hT : T ≤ 6) (hn : OkN T ns) (hp : p ∈ ns) : famInI (T : Nat) (natI ns) (p : Nat) = true := by
  rw [inI_of hT hn (hn.lt p hp)]; exact least_has hp

set_option maxHeartbeats 4000000 in
theorem inOk_law (A : Option Addr) (cap l : Nat) (w : World) (hb : BytesIn w w.heap.size A l) (hc : l ≤ cap) :
    Calls Try.prog 12 #[.slice A l cap] w fun e w' => e = .returned (.bool true) ∧ Below w.heap.size w w' := by
  by_cases hbig : 1048576 < l
  · go_enter Try.func12, Try.ntmps12
    go_wp2
    go_returns
    exact ⟨rfl, Below.refl _ _⟩
  have hl : l ≤ 1048576 := by omega
  clear hbig
  have HI : Hid (∀ (u : World) (t : Int) (A : Option Addr) (c m : Nat) (xs : List Int) (s : Int) (v : Bool), famInI t xs s = v → xs.length = m → m ≤ 65 → IntsIn u u.heap.size A xs → Calls Try.prog 20 #[.agg #[.int .i64 t, .slice A m c], .int .i64 s] u fun e w' => e = .returned (.bool v) ∧ Below u.heap.size u w') := fun u t A c m xs s v hv hm hl hi => by
    subst hv hm; exact inOk_any t A c xs s u hi (by omega)
  have HS : Hid (∀ (u : World) (t : Int) (A : Option Addr) (c m : Nat) (xs : List Int) (s : Int) (v : Bool), famInI t xs s = v → xs.length = m → m ≤ 65 → IntsIn u u.heap.size A xs → Calls Try.prog 19 #[.agg #[.int .i64 t, .slice A m c], .int .i64 s] u fun e w' => e = .returned (.bool v) ∧ Below u.heap.size u w') := fun u t A c m xs s v hv hm hl hi => by
    subst hv hm; exact specInOk_any t A c xs s u hi (by unfold maxLen; omega)
  have HO : Hid (∀ (u : World) (t : Int) (A : Option Addr) (c m : Nat) (xs : List Int) (v : Bool), famOkB t xs = v → xs.length = m → m ≤ 65 → IntsIn u u.heap.size A xs → Calls Try.prog 15 #[.agg #[.int .i64 t, .slice A m c]] u fun e w' => e = .returned (.bool v) ∧ Below u.heap.size u w') := fun u t A c m xs v hv hm hl hi => by
    subst hv hm; exact specFamilyOk_any t A c xs u hi (by unfold maxLen; omega)
  go_enter Try.func12, Try.ntmps12
  go_wp2_with fail
  refine (drawInOk_any _ _ _ _ hb hl hc).mono ?_
  rintro e1 w1 ⟨t, A1, c1, xs, s, rfl, own, t0, t1, hx, s0, s1, BB1⟩
  have D0 := FamObj.start (t := t) 27 BB1.size own
  have BB2 := BB1.alloc BB1.size (.cells #[.int .i64 t, .slice A1 xs.length c1] 27)
  obtain ⟨m, hm⟩ : ∃ m, xs.length = m := ⟨_, rfl⟩
  rw [hm] at D0 BB2 hx ⊢
  obtain ⟨W, hW⟩ : ∃ W, W = w1.alloc (.cells #[.int .i64 t, .slice A1 m c1] 27) := ⟨_, rfl⟩
  have HM := Lib.hid hm
  clear hb hl hc own
  go_wp2_with fail
  rw [← hW] at D0 BB2 ⊢
  clear hW BB1
  generalize w1.heap.size = b at *
  obtain ⟨ok, hok⟩ : ∃ ok, famInI t xs s = ok := ⟨_, rfl⟩
  have HV := Lib.hid hok
  refine (HI.out _ _ _ _ _ _ _ _ HV.out HM.out hx D0.ints).mono ?_
  rintro e2 w2 ⟨rfl, hb2⟩
  have D2 := D0.next hb2
  have BB3 := BB2.trans (hb2.mono BB2.size)
  clear D0 hb2 BB2
  have p0 := D2.c0
  have p1 := D2.c1
  have pl := D2.lt
  go_wp2_with fail
  refine (HS.out _ _ _ _ _ _ _ _ HV.out HM.out hx D2.ints).mono ?_
  rintro e3 w3 ⟨rfl, hb3⟩
  have D3 := D2.next hb3
  have BB4 := BB3.trans (hb3.mono BB3.size)
  clear p0 p1 pl D2 hb3 BB3 HS
  have p0 := D3.c0
  have p1 := D3.c1
  have pl := D3.lt
  cases hB : famOkB t xs with
  | false =>
    have HB := Lib.hid hB
    obtain rfl : ok = false := by rw [← hok]; unfold famInI; rw [hB]; rfl
    clear hB hm hok
    go_wp2_with fail
    refine (HO.out _ _ _ _ _ _ _ HB.out HM.out hx D3.ints).mono ?_
    rintro e4 w4 ⟨rfl, hb4⟩
    have BB5 := BB4.trans (hb4.mono BB4.size)
    clear p0 p1 pl D3 hb4 BB4
    go_wp2_with fail
    refine (alive_any _).mono ?_
    rintro e5 w5 ⟨rfl, hb5⟩
    go_wp2_with fail
    go_returns
    exact ⟨by first | rfl | simp, BB5.trans (hb5.mono BB5.size)⟩
  | true =>
    obtain ⟨T, ns, rfl, hT, rfl, hn⟩ := famOkB_iff.1 hB
    have HB := Lib.hid hB
    have HUP : Hid (ok = true → ∀ k : Nat, k < T → famInI (T : Nat) (natI ns) (Go.bits .or .i64 s ((2 ^ k : Nat) : Int)) = true) := fun h k hk => inI_more hT hn (hok.trans h) hk
    have HLESS : Hid (∀ p k : Nat, p ∈ ns → p.testBit k = true → famInI (T : Nat) (natI ns) ((p : Int) - ((2 ^ k : Nat) : Int)) = false) := fun p k hp hk => inI_less hT hn hp hk
    have HHAS : Hid (∀ p : Nat, p ∈ ns → famInI (T : Nat) (natI ns) (p : Nat) = true) := fun p hp => inI_has hT hn hp
    have HLT : Hid (∀ p ∈ ns, p < 64) := fun p hp => by have h1 := hn.lt p hp; have h2 := pow_64 hT; omega
    have HL : Hid (ns.length = m) := by unfold Hid; rw [← hm, natI_length]
    have HGET : Hid (∀ j p : Nat, ns[j]? = some p → (natI ns)[j]? = some (p : Int)) := fun j p h => by unfold natI; rw [List.getElem?_map, h]; rfl
    clear hB hm hok hn
    have hnn : ∀ v : Bool, ((!v) == !v) = true := fun v => by cases v <;> rfl
    cases ok with
    | false =>
      go_wp2_with fail
      refine (HO.out _ _ _ _ _ _ _ HB.out HM.out hx D3.ints).mono ?_
      rintro e4 w4 ⟨rfl, hb4⟩
      have D4 := D3.next hb4
      have BB5 := BB4.trans (hb4.mono BB4.size)
      clear p0 p1 pl D3 hb4 BB4
      go_wp2_with fail
      go_loopw [6] (fun i wr => ∃ k : Nat, k ≤ T ∧ i = .int .i64 k ∧ FamObj wr w.heap.size (b + 1) b (T : Nat) A1 m c1 (natI ns) ∧ Below w.heap.size w wr) (fun i _ => T - (intOf i).toNat)
      case atStart => exact ⟨0, by omega, rfl, D4, BB5⟩
      case round =>
        clear D4 BB5
        obtain ⟨k, hk, rfl, D, BB⟩ := hrel
        have p0 := D.c0
        have p1 := D.c1
        have pl := D.lt
        by_cases hlt : k < T
        · obtain ⟨Q, hQ, q1, q2, hp3, hp4⟩ := pow_named12 (show k ≤ 13 by omega)
          have hkmin : min k 64 = k := by omega
          have HQ := Lib.hid hQ
          clear hQ
          go_wp2_with fail
          refine wp_region_class (fun u => FamObj u w.heap.size (b + 1) b (T : Nat) A1 m c1 (natI ns) ∧ Below w.heap.size w u) (by kernel_rfl) (by kernel_rfl) ⟨D.drew, BB.drew⟩ ?_
          clear D BB p0 p1 pl
          intro X hX f hf hex
          have k0 : ∀ x, (f x).cell? ⟨b, 0, none⟩ = some (.int .i64 (T : Nat)) := fun x => (hf x).1.c0
          have k1 : ∀ x, (f x).cell? ⟨b, 1, none⟩ = some (.slice A1 m c1) := fun x => (hf x).1.c1
          repeat (go_big_quiet_step (fail))
          refine wpQuiet_nil ?_
          rintro _ ⟨x, rfl⟩
          obtain ⟨D, BB⟩ := hf x
          generalize f x = wx at *
          clear k0 k1 hf hex
          go_wp2_with fail
          go_loopw [7] (fun i wr => ∃ j : Nat, j ≤ m ∧ i = .int .i64 j ∧ FamObj wr w.heap.size (b + 1) b (T : Nat) A1 m c1 (natI ns) ∧ Below w.heap.size w wr) (fun i _ => m - (intOf i).toNat)
          case atStart => exact ⟨0, by omega, rfl, D, BB⟩
          case round =>
            clear D BB
            obtain ⟨j, hj, rfl, D, BB⟩ := hrel
            have p0 := D.c0
            have p1 := D.c1
            have pl := D.lt
            by_cases hjm : j < m
            · obtain ⟨p, hp⟩ : ∃ p, ns[j]? = some p := ⟨_, List.getElem?_eq_getElem (by rw [HL.out]; exact hjm)⟩
              have hmem := List.mem_of_getElem? hp
              have hp64 := HLT.out p hmem
              have hget := HGET.out j p hp
              obtain ⟨bb, off, rfl, hbb, g1⟩ := D.ints j _ hget
              have hbit := bit_tmod p k
              go_wp2_with fail
              cases hb : p.testBit k with
              | true =>
                rw [hb, if_pos rfl] at hbit
                have hless := HLESS.out p k hmem hb
                rw [HQ.out] at hless
                have wsub : IntKind.i64.wrap ((p : Int) - (Q : Int)) = (p : Int) - (Q : Int) := IntWalk.i64_in _ (by omega)
                clear hp hb hmem g1
                refine wp_region_class (fun u => FamObj u w.heap.size (b + 1) b (T : Nat) (some ⟨bb, off, none⟩) m c1 (natI ns) ∧ Below w.heap.size w u) (by kernel_rfl) (by kernel_rfl) ⟨D.drew, BB.drew⟩ ?_
                clear D BB p0 p1 pl
                intro X hX f hf hex
                have k0 : ∀ x, (f x).cell? ⟨b, 0, none⟩ = some (.int .i64 (T : Nat)) := fun x => (hf x).1.c0
                have k1 : ∀ x, (f x).cell? ⟨b, 1, none⟩ = some (.slice (some ⟨bb, off, none⟩) m c1) := fun x => (hf x).1.c1
                have k2 : ∀ x, (f x).cell? ⟨bb, off + j, none⟩ = some (.int .i64 (p : Nat)) := fun x => by
                  obtain ⟨b', off', e, _, g⟩ := (hf x).1.ints j _ hget
                  injection e with e
                  injection e with e1 e2
                  subst e1 e2
                  exact g
                have HC : Hid (∀ x, Calls Try.prog 20 #[.agg #[.int .i64 (T : Nat), .slice (some ⟨bb, off, none⟩) m c1], .int .i64 ((p : Int) - (Q : Nat))] (f x) fun e w' => e = .returned (.bool false) ∧ Below (f x).heap.size (f x) w') := fun x => HI.out _ _ _ _ _ _ _ _ hless HM.out hx (hf x).1.ints
                have HD : Hid (∀ x w', Below (f x).heap.size (f x) w' → (FamObj w' w.heap.size (b + 1) b (T : Nat) (some ⟨bb, off, none⟩) m c1 (natI ns) ∧ Below w.heap.size w w')) := fun x w' hb => ⟨(hf x).1.next hb, (hf x).2.trans (hb.mono (hf x).2.size)⟩
                clear hless
                repeat (go_big_quiet_step (first | (go_at_call 20; with_reducible exact class_of hex (HC.out _) (HD.out _))))
                refine wpQuiet_nil ?_
                rintro _ ⟨x, rfl⟩
                obtain ⟨D, BB⟩ := hf x
                generalize f x = wx at *
                clear HC HD k0 k1 k2 hf hex
                go_wp2_with fail
                go_roundw
                case rel => exact ⟨j + 1, by omega, by go_num, D, BB⟩
                case measure => simp [intOf]; omega
              | false =>
                rw [hb, if_neg (by simp)] at hbit
                clear hp hb hmem g1
                refine wp_region_class (fun u => FamObj u w.heap.size (b + 1) b (T : Nat) (some ⟨bb, off, none⟩) m c1 (natI ns) ∧ Below w.heap.size w u) (by kernel_rfl) (by kernel_rfl) ⟨D.drew, BB.drew⟩ ?_
                clear D BB p0 p1 pl
                intro X hX f hf hex
                have k0 : ∀ x, (f x).cell? ⟨b, 0, none⟩ = some (.int .i64 (T : Nat)) := fun x => (hf x).1.c0
                have k1 : ∀ x, (f x).cell? ⟨b, 1, none⟩ = some (.slice (some ⟨bb, off, none⟩) m c1) := fun x => (hf x).1.c1
                have k2 : ∀ x, (f x).cell? ⟨bb, off + j, none⟩ = some (.int .i64 (p : Nat)) := fun x => by
                  obtain ⟨b', off', e, _, g⟩ := (hf x).1.ints j _ hget
                  injection e with e
                  injection e with e1 e2
                  subst e1 e2
                  exact g
                repeat (go_big_quiet_step (fail))
                refine wpQuiet_nil ?_
                rintro _ ⟨x, rfl⟩
                obtain ⟨D, BB⟩ := hf x
                generalize f x = wx at *
                clear k0 k1 k2 hf hex
                go_wp2_with fail
                go_roundw
                case rel => exact ⟨j + 1, by omega, by go_num, D, BB⟩
                case measure => simp [intOf]; omega
            · obtain rfl : j = m := by omega
              go_wp2_with fail
              go_roundw
              case rel => exact ⟨k + 1, by omega, by go_num, D, BB⟩
              case measure => simp [intOf]; omega
        · have hkT : T = k := by omega
          subst hkT
          go_wp2_with fail
          go_loopw [8] (fun i wr => ∃ j : Nat, j ≤ m ∧ i = .int .i64 j ∧ FamObj wr w.heap.size (b + 1) b (T : Nat) A1 m c1 (natI ns) ∧ Below w.heap.size w wr) (fun i _ => m - (intOf i).toNat)
          case atStart => exact ⟨0, by omega, rfl, D, BB⟩
          case round =>
            clear D BB p0 p1 pl
            obtain ⟨j, hj, rfl, D, BB⟩ := hrel
            have p0 := D.c0
            have p1 := D.c1
            have pl := D.lt
            by_cases hjm : j < m
            · obtain ⟨p, hp⟩ : ∃ p, ns[j]? = some p := ⟨_, List.getElem?_eq_getElem (by rw [HL.out]; exact hjm)⟩
              have hmem := List.mem_of_getElem? hp
              have hp64 := HLT.out p hmem
              have hget := HGET.out j p hp
              obtain ⟨bb, off, rfl, hbb, g1⟩ := D.ints j _ hget
              have hhas := HHAS.out p hmem
              go_wp2_with fail
              clear hp hmem g1
              refine wp_region_class (fun u => FamObj u w.heap.size (b + 1) b (T : Nat) (some ⟨bb, off, none⟩) m c1 (natI ns) ∧ Below w.heap.size w u) (by kernel_rfl) (by kernel_rfl) ⟨D.drew, BB.drew⟩ ?_
              clear D BB p0 p1 pl
              intro X hX f hf hex
              have k0 : ∀ x, (f x).cell? ⟨b, 0, none⟩ = some (.int .i64 (T : Nat)) := fun x => (hf x).1.c0
              have k1 : ∀ x, (f x).cell? ⟨b, 1, none⟩ = some (.slice (some ⟨bb, off, none⟩) m c1) := fun x => (hf x).1.c1
              have k2 : ∀ x, (f x).cell? ⟨bb, off + j, none⟩ = some (.int .i64 (p : Nat)) := fun x => by
                obtain ⟨b', off', e, _, g⟩ := (hf x).1.ints j _ hget
                injection e with e
                injection e with e1 e2
                subst e1 e2
                exact g
              have HC : Hid (∀ x, Calls Try.prog 20 #[.agg #[.int .i64 (T : Nat), .slice (some ⟨bb, off, none⟩) m c1], .int .i64 ((p : Nat))] (f x) fun e w' => e = .returned (.bool true) ∧ Below (f x).heap.size (f x) w') := fun x => HI.out _ _ _ _ _ _ _ _ hhas HM.out hx (hf x).1.ints
              have HD : Hid (∀ x w', Below (f x).heap.size (f x) w' → (FamObj w' w.heap.size (b + 1) b (T : Nat) (some ⟨bb, off, none⟩) m c1 (natI ns) ∧ Below w.heap.size w w')) := fun x w' hb => ⟨(hf x).1.next hb, (hf x).2.trans (hb.mono (hf x).2.size)⟩
              clear hhas
              repeat (go_big_quiet_step (first | (go_at_call 20; with_reducible exact class_of hex (HC.out _) (HD.out _))))
              refine wpQuiet_nil ?_
              rintro _ ⟨x, rfl⟩
              obtain ⟨D, BB⟩ := hf x
              generalize f x = wx at *
              clear HC HD k0 k1 k2 hf hex
              go_wp2_with fail
              go_roundw
              case rel => exact ⟨j + 1, by omega, by go_num, D, BB⟩
              case measure => simp [intOf]; omega
            · obtain rfl : j = m := by omega
              go_wp2_with fail
              go_returns
              exact ⟨by first | rfl | simp, BB⟩
    | true =>
      go_wp2_with fail
      refine (HO.out _ _ _ _ _ _ _ HB.out HM.out hx D3.ints).mono ?_
      rintro e4 w4 ⟨rfl, hb4⟩
      have D4 := D3.next hb4
      have BB5 := BB4.trans (hb4.mono BB4.size)
      clear p0 p1 pl D3 hb4 BB4
      go_wp2_with fail
      go_loopw [6] (fun i wr => ∃ k : Nat, k ≤ T ∧ i = .int .i64 k ∧ FamObj wr w.heap.size (b + 1) b (T : Nat) A1 m c1 (natI ns) ∧ Below w.heap.size w wr) (fun i _ => T - (intOf i).toNat)
      case atStart => exact ⟨0, by omega, rfl, D4, BB5⟩
      case round =>
        clear D4 BB5
        obtain ⟨k, hk, rfl, D, BB⟩ := hrel
        have p0 := D.c0
        have p1 := D.c1
        have pl := D.lt
        by_cases hlt : k < T
        · obtain ⟨Q, hQ, q1, q2, hp3, hp4⟩ := pow_named12 (show k ≤ 13 by omega)
          have hup := HUP.out (by trivial) k hlt
          rw [hQ] at hup
          have hkmin : min k 64 = k := by omega
          have HQ := Lib.hid hQ
          clear hQ
          go_wp2_with fail
          refine wp_region_class (fun u => FamObj u w.heap.size (b + 1) b (T : Nat) A1 m c1 (natI ns) ∧ Below w.heap.size w u) (by kernel_rfl) (by kernel_rfl) ⟨D.drew, BB.drew⟩ ?_
          clear D BB p0 p1 pl
          intro X hX f hf hex
          have k0 : ∀ x, (f x).cell? ⟨b, 0, none⟩ = some (.int .i64 (T : Nat)) := fun x => (hf x).1.c0
          have k1 : ∀ x, (f x).cell? ⟨b, 1, none⟩ = some (.slice A1 m c1) := fun x => (hf x).1.c1
          have HC : Hid (∀ x, Calls Try.prog 20 #[.agg #[.int .i64 (T : Nat), .slice A1 m c1], .int .i64 (Go.bits .or .i64 s (Q : Nat))] (f x) fun e w' => e = .returned (.bool true) ∧ Below (f x).heap.size (f x) w') := fun x => HI.out _ _ _ _ _ _ _ _ hup HM.out hx (hf x).1.ints
          have HD : Hid (∀ x w', Below (f x).heap.size (f x) w' → (FamObj w' w.heap.size (b + 1) b (T : Nat) A1 m c1 (natI ns) ∧ Below w.heap.size w w')) := fun x w' hb => ⟨(hf x).1.next hb, (hf x).2.trans (hb.mono (hf x).2.size)⟩
          clear hup
          repeat (go_big_quiet_step (first | (go_at_call 20; with_reducible exact class_of hex (HC.out _) (HD.out _))))
          refine wpQuiet_nil ?_
          rintro _ ⟨x, rfl⟩
          obtain ⟨D, BB⟩ := hf x
          generalize f x = wx at *
          clear HC HD k0 k1 hf hex
          go_wp2_with fail
          go_loopw [7] (fun i wr => ∃ j : Nat, j ≤ m ∧ i = .int .i64 j ∧ FamObj wr w.heap.size (b + 1) b (T : Nat) A1 m c1 (natI ns) ∧ Below w.heap.size w wr) (fun i _ => m - (intOf i).toNat)
          case atStart => exact ⟨0, by omega, rfl, D, BB⟩
          case round =>
            clear D BB
            obtain ⟨j, hj, rfl, D, BB⟩ := hrel
            have p0 := D.c0
            have p1 := D.c1
            have pl := D.lt
            by_cases hjm : j < m
            · obtain ⟨p, hp⟩ : ∃ p, ns[j]? = some p := ⟨_, List.getElem?_eq_getElem (by rw [HL.out]; exact hjm)⟩
              have hmem := List.mem_of_getElem? hp
              have hp64 := HLT.out p hmem
              have hget := HGET.out j p hp
              obtain ⟨bb, off, rfl, hbb, g1⟩ := D.ints j _ hget
              have hbit := bit_tmod p k
              go_wp2_with fail
              cases hb : p.testBit k with
              | true =>
                rw [hb, if_pos rfl] at hbit
                have hless := HLESS.out p k hmem hb
                rw [HQ.out] at hless
                have wsub : IntKind.i64.wrap ((p : Int) - (Q : Int)) = (p : Int) - (Q : Int) := IntWalk.i64_in _ (by omega)
                clear hp hb hmem g1
                refine wp_region_class (fun u => FamObj u w.heap.size (b + 1) b (T : Nat) (some ⟨bb, off, none⟩) m c1 (natI ns) ∧ Below w.heap.size w u) (by kernel_rfl) (by kernel_rfl) ⟨D.drew, BB.drew⟩ ?_
                clear D BB p0 p1 pl
                intro X hX f hf hex
                have k0 : ∀ x, (f x).cell? ⟨b, 0, none⟩ = some (.int .i64 (T : Nat)) := fun x => (hf x).1.c0
                have k1 : ∀ x, (f x).cell? ⟨b, 1, none⟩ = some (.slice (some ⟨bb, off, none⟩) m c1) := fun x => (hf x).1.c1
                have k2 : ∀ x, (f x).cell? ⟨bb, off + j, none⟩ = some (.int .i64 (p : Nat)) := fun x => by
                  obtain ⟨b', off', e, _, g⟩ := (hf x).1.ints j _ hget
                  injection e with e
                  injection e with e1 e2
                  subst e1 e2
                  exact g
                have HC : Hid (∀ x, Calls Try.prog 20 #[.agg #[.int .i64 (T : Nat), .slice (some ⟨bb, off, none⟩) m c1], .int .i64 ((p : Int) - (Q : Nat))] (f x) fun e w' => e = .returned (.bool false) ∧ Below (f x).heap.size (f x) w') := fun x => HI.out _ _ _ _ _ _ _ _ hless HM.out hx (hf x).1.ints
                have HD : Hid (∀ x w', Below (f x).heap.size (f x) w' → (FamObj w' w.heap.size (b + 1) b (T : Nat) (some ⟨bb, off, none⟩) m c1 (natI ns) ∧ Below w.heap.size w w')) := fun x w' hb => ⟨(hf x).1.next hb, (hf x).2.trans (hb.mono (hf x).2.size)⟩
                clear hless
                repeat (go_big_quiet_step (first | (go_at_call 20; with_reducible exact class_of hex (HC.out _) (HD.out _))))
                refine wpQuiet_nil ?_
                rintro _ ⟨x, rfl⟩
                obtain ⟨D, BB⟩ := hf x
                generalize f x = wx at *
                clear HC HD k0 k1 k2 hf hex
                go_wp2_with fail
                go_roundw
                case rel => exact ⟨j + 1, by omega, by go_num, D, BB⟩
                case measure => simp [intOf]; omega
              | false =>
                rw [hb, if_neg (by simp)] at hbit
                clear hp hb hmem g1
                refine wp_region_class (fun u => FamObj u w.heap.size (b + 1) b (T : Nat) (some ⟨bb, off, none⟩) m c1 (natI ns) ∧ Below w.heap.size w u) (by kernel_rfl) (by kernel_rfl) ⟨D.drew, BB.drew⟩ ?_
                clear D BB p0 p1 pl
                intro X hX f hf hex
                have k0 : ∀ x, (f x).cell? ⟨b, 0, none⟩ = some (.int .i64 (T : Nat)) := fun x => (hf x).1.c0
                have k1 : ∀ x, (f x).cell? ⟨b, 1, none⟩ = some (.slice (some ⟨bb, off, none⟩) m c1) := fun x => (hf x).1.c1
                have k2 : ∀ x, (f x).cell? ⟨bb, off + j, none⟩ = some (.int .i64 (p : Nat)) := fun x => by
                  obtain ⟨b', off', e, _, g⟩ := (hf x).1.ints j _ hget
                  injection e with e
                  injection e with e1 e2
                  subst e1 e2
                  exact g
                repeat (go_big_quiet_step (fail))
                refine wpQuiet_nil ?_
                rintro _ ⟨x, rfl⟩
                obtain ⟨D, BB⟩ := hf x
                generalize f x = wx at *
                clear k0 k1 k2 hf hex
                go_wp2_with fail
                go_roundw
                case rel => exact ⟨j + 1, by omega, by go_num, D, BB⟩
                case measure => simp [intOf]; omega
            · obtain rfl : j = m := by omega
              go_wp2_with fail
              go_roundw
              case rel => exact ⟨k + 1, by omega, by go_num, D, BB⟩
              case measure => simp [intOf]; omega
        · have hkT : T = k := by omega
          subst hkT
          go_wp2_with fail
          go_loopw [8] (fun i wr => ∃ j : Nat, j ≤ m ∧ i = .int .i64 j ∧ FamObj wr w.heap.size (b + 1) b (T : Nat) A1 m c1 (natI ns) ∧ Below w.heap.size w wr) (fun i _ => m - (intOf i).toNat)
          case atStart => exact ⟨0, by omega, rfl, D, BB⟩
          case round =>
            clear D BB p0 p1 pl
            obtain ⟨j, hj, rfl, D, BB⟩ := hrel
            have p0 := D.c0
            have p1 := D.c1
            have pl := D.lt
            by_cases hjm : j < m
            · obtain ⟨p, hp⟩ : ∃ p, ns[j]? = some p := ⟨_, List.getElem?_eq_getElem (by rw [HL.out]; exact hjm)⟩
              have hmem := List.mem_of_getElem? hp
              have hp64 := HLT.out p hmem
              have hget := HGET.out j p hp
              obtain ⟨bb, off, rfl, hbb, g1⟩ := D.ints j _ hget
              have hhas := HHAS.out p hmem
              go_wp2_with fail
              clear hp hmem g1
              refine wp_region_class (fun u => FamObj u w.heap.size (b + 1) b (T : Nat) (some ⟨bb, off, none⟩) m c1 (natI ns) ∧ Below w.heap.size w u) (by kernel_rfl) (by kernel_rfl) ⟨D.drew, BB.drew⟩ ?_
              clear D BB p0 p1 pl
              intro X hX f hf hex
              have k0 : ∀ x, (f x).cell? ⟨b, 0, none⟩ = some (.int .i64 (T : Nat)) := fun x => (hf x).1.c0
              have k1 : ∀ x, (f x).cell? ⟨b, 1, none⟩ = some (.slice (some ⟨bb, off, none⟩) m c1) := fun x => (hf x).1.c1
              have k2 : ∀ x, (f x).cell? ⟨bb, off + j, none⟩ = some (.int .i64 (p : Nat)) := fun x => by
                obtain ⟨b', off', e, _, g⟩ := (hf x).1.ints j _ hget
                injection e with e
                injection e with e1 e2
                subst e1 e2
                exact g
              have HC : Hid (∀ x, Calls Try.prog 20 #[.agg #[.int .i64 (T : Nat), .slice (some ⟨bb, off, none⟩) m c1], .int .i64 ((p : Nat))] (f x) fun e w' => e = .returned (.bool true) ∧ Below (f x).heap.size (f x) w') := fun x => HI.out _ _ _ _ _ _ _ _ hhas HM.out hx (hf x).1.ints
              have HD : Hid (∀ x w', Below (f x).heap.size (f x) w' → (FamObj w' w.heap.size (b + 1) b (T : Nat) (some ⟨bb, off, none⟩) m c1 (natI ns) ∧ Below w.heap.size w w')) := fun x w' hb => ⟨(hf x).1.next hb, (hf x).2.trans (hb.mono (hf x).2.size)⟩
              clear hhas
              repeat (go_big_quiet_step (first | (go_at_call 20; with_reducible exact class_of hex (HC.out _) (HD.out _))))
              refine wpQuiet_nil ?_
              rintro _ ⟨x, rfl⟩
              obtain ⟨D, BB⟩ := hf x
              generalize f x = wx at *
              clear HC HD k0 k1 k2 hf hex
              go_wp2_with fail
              go_roundw
              case rel => exact ⟨j + 1, by omega, by go_num, D, BB⟩
              case measure => simp [intOf]; omega
            · obtain rfl : j = m := by omega
              go_wp2_with fail
              go_returns
              exact ⟨by first | rfl | simp, BB⟩

namespace fnInOk
open Go.ChangeShapes Go.WideShapes Go.ChangeAt Go.RowKit Go.Deep Go.Joins
set_option linter.unusedVariables false
set_option maxRecDepth 100000 in
theorem lifted (os : Os) (started : os.Started) (H : Type) (enc : TypeId × Value → H) :
    ReturnsInHanded {} Try.checked os 12 .any (Rows.fnInOkSpec.pre6 enc Try.prog Try.f12 Rows.fnInOkRow.domain false) (Rows.fnInOkSpec.post enc Try.prog Try.f12 false true false false) := by
  refine returnsInHanded_of_change (C := Try.checked) own started (by kernel_rfl) Try.func12
    (ChangeSpec.witness6 (enc := enc) (C := Try.checked) false ⟨#[], #[.slice none 0 0], []⟩ 8 (by kernel_rfl) (by kernel_rfl) (by kernel_rfl) (by kernel_rfl)) ?_
  intro W base args ds gs before hval0 hW hcnd _
  have hval : ∀ (j : Nat) t v, Try.f12.params[j]? = some t → args[j]? = some v → Value.okWide Try.prog W .any base t v := hval0
  have hW' := hW
  obtain ⟨p, q, hA0, hV, rfl, hfz, hnd⟩ := hW
  have hA : DataW.TrodAll enc Try.prog W 0 (fun _ => true) true Try.f12.params.toList args.toList ds p := hA0
  rw [Try.params12] at hA hval
  obtain ⟨v0, vs0, d0, ds0, p0, q0, hargs, rfl, rfl, h0, r0⟩ := trodAll_cons hA
  obtain ⟨rfl, rfl, rfl⟩ := trodAll_nil r0
  obtain rfl : args = #[v0] := by cases args; simp_all
  obtain ⟨rfl, rfl⟩ := trodVars_none hV
  have k0 := h0
  have lt0 : ∀ x ∈ p0, x.block < W.heap.size := by obtain ⟨m, hm⟩ := k0; exact DataW.trod_lt m _ _ _ hm
  obtain ⟨A0, c0, bs0, rfl, hb0, hl0⟩ := open_bytes (hval 0 44 v0 rfl rfl) h0
  clear hA0 hval0
  refine (inOk_law A0 c0 bs0 W hb0 hl0).mono fun e W' ⟨he, bel⟩ => ?_
  subst he
  exact ⟨_, rfl, _, _, _, [], _, [], hW', trodAll_mk1 (shut_bool Try.underlying4 _), (trodAll_cons_mk (Below.trod laidOut (by kernel_rfl) (of_decide_eq_true (by kernel_rfl)) k0 bel lt0) trodAll_mk0), rfl, bel.frame _, fun h => by cases h⟩

theorem holds : Rows.FnInOkSaid :=
  OpenClaim.holds_of_wide 12 Try.f12 rfl rfl rfl rfl rfl rfl rfl ⟨rfl, rfl, rfl, rfl, rfl⟩ rfl rfl rfl rfl rfl (by kernel_rfl) Try.func12 (by kernel_rfl)
    (of_decide_eq_true (by kernel_rfl)) (by unfold Func.isWrapper; first | (rw [if_pos (by decide +kernel)]; kernel_rfl) | (rw [if_neg (by decide +kernel)]; exact ⟨rfl, rfl⟩))
    (fun os started H enc _ => lifted os started H enc)
end fnInOk
end Go.Proofs.Ytlcgbmeneajfoaa
