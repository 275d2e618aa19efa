/- The law FnPathsOf holds of every two codes: states that work have a path; no path has all edges of another; each path meets each cut; ascending. -/
import Derived.Test.YtlcgbmeneajfoabBytes
import Derived.Test.YtlcgbmeneajfoabDrawT4
import Derived.Test.YtlcgbmeneajfoabFacts4
import Derived.Test.YtlcgbmeneajfoabSpec4b
import Derived.Test.YtlcgbmeneajfoabAscend
namespace Go.Proofs.Ytlcgbmeneajfoab
open Go.RowKit
set_option maxRecDepth 100000

set_option maxHeartbeats 4000000 in
theorem pathsOf_law (A : Option Addr) (cap l : Nat) (A0 : Option Addr) (cap0 l0 : Nat) (w : World) (hb : BytesIn w w.heap.size A l) (hc : l ≤ cap) (hb0 : BytesIn w w.heap.size A0 l0) (hc0 : l0 ≤ cap0) :
    Calls Try.prog 11 #[.slice A l cap, .slice A0 l0 cap0] w fun e w' => e = .returned (.bool true) ∧ Below w.heap.size w w' := by
  by_cases hbig : 1048576 < l
  · go_enter Try.func11, Try.ntmps11
    go_wp2
    go_returns
    exact ⟨rfl, Below.refl _ _⟩
  by_cases hbig2 : 1048576 < l0
  · go_enter Try.func11, Try.ntmps11
    go_wp2
    all_goals
      go_returns
      exact ⟨rfl, Below.refl _ _⟩
  · have hl : l ≤ 1048576 := by omega
    have hl2 : l0 ≤ 1048576 := by omega
    clear hbig hbig2
    go_enter Try.func11, Try.ntmps11
    go_wp2_with fail
    refine (drawPathsOf_any _ _ _ _ hb hl hc).mono ?_
    rintro e1 w1 ⟨n, A1, c, es, a, b, rfl, own, n1, n7, hle, a1, a2, b1, b2, hb1⟩
    have L1 := ArgNet.start (cap := c) (n := n) 45 own.edges
    have HB := Lib.hid hb1
    have hle' : es.length ≤ 1048576 := by omega
    have s1 := hb1.size
    have hby : ∀ k, k < l0 → ∃ b off x, A0 = some ⟨b, off, none⟩ ∧ b < w1.heap.size ∧ w1.cell? ⟨b, off + k, none⟩ = some (.int .u8 x) ∧ 0 ≤ x ∧ x ≤ 255 := fun k hk => by
      obtain ⟨b, off, x, e, hlt, h1, h2, h3⟩ := hb0 k hk
      exact ⟨b, off, x, e, by omega, (hb1.cell (p := ⟨b, _, none⟩) hlt).trans h1, h2, h3⟩
    have HBY := Lib.hid hby
    clear own hb hb1 hb0 hby
    have HN : Hid (∀ (v : Bool) u, netOkB n es = v → EdgesIn u u.heap.size A1 es → Calls Try.prog 49 #[.agg #[.int .i64 n, .slice A1 es.length c]] u fun e w' => e = .returned (.bool v) ∧ Below u.heap.size u w') := fun v u h hu => h ▸ specNetOk_any n A1 c es u hu hle'
    have hI : ∀ u, EdgesIn u u.heap.size A1 es → Calls Try.prog 47 #[.agg #[.int .i64 n, .slice A1 es.length c], .int .i64 a, .int .i64 b] u (GotN u (pathsN n es a b).length (pathsN n es a b)) := fun u h => (pathsOf_any n a b A1 c es u h hle').mono fun _ _ => GotInts.states rfl
    have hS : ∀ u, EdgesIn u u.heap.size A1 es → Calls Try.prog 48 #[.agg #[.int .i64 n, .slice A1 es.length c], .int .i64 a, .int .i64 b] u (GotN u (pathsN n es a b).length (pathsN n es a b)) := fun u h => (specPathsOf_any n a b A1 c es u h hle').mono fun _ _ => GotInts.states rfl
    have HI := Lib.hid hI
    have HS := Lib.hid hS
    clear hI hS
    by_cases hok : joinOkB n es a b = true
    · have h9 := joinOk_nine hok
      have HNET := Lib.hid (ok_parts hok).1
      have hok' := joinOkB_iff.1 hok
      have dab : (a == b) = false := by simpa using hok'.2.2.2
      have dA : decide (n < a) = false := by simp; omega
      have dB : decide (n < b) = false := by simp; omega
      have HLX : Hid ((pathsN n es a b).length ≤ 512) := pathsN_len n es a b
      have HX : Hid (∀ k, k < (pathsN n es a b).length → (pathsN n es a b).getD k 0 < 512) := fun k hk => pathsN_lt (getD_in hk)
      have hj : ∀ (q : Nat), q < 2 ^ es.length → ∀ u, EdgesIn u u.heap.size A1 es → Calls Try.prog 50 #[.agg #[.int .i64 n, .slice A1 es.length c], .int .i64 (q : Nat), .int .i64 a, .int .i64 b] u fun e w' => e = .returned (.bool (joinS es a.toNat b.toNat q)) ∧ Below u.heap.size u w' := fun q hq u h => by
        rw [← joined_state hok hq]; exact joinedOk_any _ _ _ _ _ _ _ _ h hle'
      have HLY : Hid ((cutsN n es a b).length ≤ 512) := cutsN_len n es a b
      have HY : Hid (∀ k, k < (cutsN n es a b).length → (cutsN n es a b).getD k 0 < 512) := fun k hk => cutsN_lt (getD_in hk)
      have HP : Hid (∀ j k, j < k → k < (pathsN n es a b).length → (pathsN n es a b).getD k 0 &&& (pathsN n es a b).getD j 0 ≠ (pathsN n es a b).getD j 0 ∧ (pathsN n es a b).getD k 0 &&& (pathsN n es a b).getD j 0 ≠ (pathsN n es a b).getD k 0) := fun j k => paths_pair hok
      have HE : Hid (∀ k j, k < (pathsN n es a b).length → j < (cutsN n es a b).length → (pathsN n es a b).getD k 0 &&& (cutsN n es a b).getD j 0 ≠ 0) := fun k j hk hj => path_meets_cut hok (getD_in hk) (getD_in hj)
      have HT : Hid (∀ k, k + 1 < (pathsN n es a b).length → (pathsN n es a b).getD k 0 < (pathsN n es a b).getD (k + 1) 0) := fun k => paths_sorted hok
      have HQF : Hid (∀ q : Nat, q < 2 ^ es.length → hasTo (pathsN n es a b) q (pathsN n es a b).length = joinS es a.toNat b.toNat q ∧ ∀ u, EdgesIn u u.heap.size A1 es → Calls Try.prog 50 #[.agg #[.int .i64 n, .slice A1 es.length c], .int .i64 (q : Nat), .int .i64 a, .int .i64 b] u fun e w' => e = .returned (.bool (joinS es a.toNat b.toNat q)) ∧ Below u.heap.size u w') := fun q hq => ⟨paths_has hok hq, hj q hq⟩
      have hC : ∀ u, EdgesIn u u.heap.size A1 es → Calls Try.prog 45 #[.agg #[.int .i64 n, .slice A1 es.length c], .int .i64 a, .int .i64 b] u (GotN u (cutsN n es a b).length (cutsN n es a b)) := fun u h => (cutsOf_any n a b A1 c es u h hle').mono fun _ _ => GotInts.states rfl
      have HC := Lib.hid hC
      clear hok hok' hj hC
      generalize pathsN n es a b = xs at *
      generalize cutsN n es a b = ys at *
      generalize joinS es a.toNat b.toNat = J at *
      obtain ⟨m, hm⟩ : ∃ m, xs.length = m := ⟨_, rfl⟩
      obtain ⟨p, hp⟩ : ∃ p, ys.length = p := ⟨_, rfl⟩
      rw [hm] at HI HS HLX HX HP HE HT HQF
      rw [hp] at HLY HY HE HC
      have HM := Lib.hid hm
      have HPL := Lib.hid hp
      have HLM : Hid ((natI xs).length = m) := by rw [Hid, natI_length]; exact hm
      have hmx := HLX.out
      have hpx := HLY.out
      have HLEN : Hid (m ≤ 1048576) := by rw [Hid]; omega
      clear hm hp
      go_wp2_with fail
      refine (HI.out _ L1.edges).mono ?_
      rintro e2 w2 ⟨g2, c2, rfl, own2, hb2⟩
      have L2 := L1.step hb2 L1.lt
      have F2 := RowAt.start (OwnI.more own2 (show w1.heap.size ≤ _ by simp))
      clear hb2 own2 L1
      have c0 := L2.c0
      have c1 := L2.c1
      go_wp2_with fail
      refine (HS.out _ L2.edges).mono ?_
      rintro e3 w3 ⟨g3, c3, rfl, own3, hb3⟩
      have L3 := L2.step hb3 L2.lt
      have F3 := F2.next hb3
      clear hb3 L2 F2 c0 c1
      go_wp2_with fail
      refine (sameInts_self _ _ _ _ _ _ _ F3.ints own3.ints HLM.out HLEN.out).mono ?_
      rintro e4 w4 ⟨rfl, hb4⟩
      have L4 := L3.step hb4 L3.lt
      have F4 := F3.next hb4
      clear hb4 L3 F3 own3
      have c0 := L4.c0
      have c1 := L4.c1
      go_wp2_with fail
      refine (HN.out _ _ HNET.out L4.edges).mono ?_
      rintro e5 w5 ⟨rfl, hb5⟩
      have L5 := L4.step hb5 L4.lt
      have F5 := F4.next hb5
      clear hb5 L4 F4 c0 c1
      have c0 := L5.c0
      have c1 := L5.c1
      have hby5 : ∀ k, k < l0 → ∃ b off x, A0 = some ⟨b, off, none⟩ ∧ w5.cell? ⟨b, off + k, none⟩ = some (.int .u8 x) ∧ 0 ≤ x ∧ x ≤ 255 := fun k hk => by
        obtain ⟨b, off, x, e, hlt, h1, h2, h3⟩ := HBY.out k hk
        exact ⟨b, off, x, e, (L5.below.cell (p := ⟨b, _, none⟩) hlt).trans h1, h2, h3⟩
      go_wp2_with fail
      go_loopw [9, 10] (fun v t wr => ∃ (k : Nat) (o : Nat), k ≤ l0 ∧ (k = 0 ∧ o = 0 ∨ k = 1 ∧ o ≤ 255 ∨ k = 2 ∧ o ≤ 65535) ∧ v = .int .i64 (o : Nat) ∧ t = .int .i64 (k : Nat) ∧ w5 = wr) (fun _ t _ => 2 - (intOf t).toNat)
      case atStart => exact ⟨0, 0, by omega, by omega, rfl, rfl, rfl⟩
      case round =>
        obtain ⟨k, o, hk, ho, rfl, rfl, rfl⟩ := hrel
        by_cases hlt : k < l0 ∧ k < 2
        · obtain ⟨b, off, x, rfl, hx, hx0, hx1⟩ := hby5 k hlt.1
          obtain ⟨x, rfl⟩ : ∃ y : Nat, x = y := ⟨x.toNat, by omega⟩
          have h1 := hlt.1
          have h2 := hlt.2
          have hw1 : IntKind.i64.wrap ((o : Int) * 256) = ((o * 256 : Nat) : Int) := by rw [IntWalk.i64_in _ (by omega)]; omega
          have hw2 : IntKind.i64.wrap (((o * 256 : Nat) : Int) + (x : Nat)) = ((o * 256 + x : Nat) : Int) := by rw [IntWalk.i64_in _ (by omega)]; omega
          clear hlt hby5
          go_wp2_with fail
          go_roundw
          case rel => exact ⟨k + 1, o * 256 + x, by omega, by omega, rfl, by go_num, by first | rfl | trivial⟩
          case measure => simp [intOf]; omega
        · clear hby5
          have hoo : o ≤ 65535 := by omega
          have hend : k = 2 ∧ (2 : Int) < (l0 : Int) ∨ k = l0 := by omega
          obtain ⟨P, hPd, hP1, hP2, hP, hP3⟩ := pow_named h9
          have hoP := Nat.mod_lt o (show 0 < P from hP1)
          have HQ := Lib.hid (HQF.out (o % P) (by rw [hPd]; exact hoP))
          have hmod := tmod_nn o P
          clear hPd
          generalize o % P = q at *
          have hq : q < 512 := Nat.lt_of_lt_of_le hoP hP2
          have hPz : ¬ (P : Int) = 0 := by clear hP hP3; omega
          have hPz2 : ((P : Int) == 0) = false := by simp; clear hP hP3; omega
          have hPz3 : ¬ P = 0 := by clear hP hP3; omega
          clear hP3
          clear hoP hk hlt ho HQF hle hle' hmx hpx
          rcases hend with ⟨rfl, hkl⟩ | rfl
          · go_wp2_with fail
            refine (HC.out _ L5.edges).mono ?_
            rintro e6 w6 ⟨g6, c6, rfl, own6, hb6⟩
            have L6 := L5.step hb6 L5.lt
            have F6 := F5.next hb6
            have hx6 := F6.ints
            have hy6 := own6.ints
            clear L5 F5 F6 own6 hb6 c0 c1 hP
            go_wp2_with fail
            go_loopw [11, 13] (fun v t wr => ∃ k : Nat, k ≤ m ∧ v = .bool (hasTo xs q k) ∧ t = .int .i64 (k : Nat) ∧ Below w6.heap.size w6 wr) (fun _ t _ => m - (intOf t).toNat)
            case atStart => exact ⟨0, by omega, rfl, rfl, Below.refl _ _⟩
            case round =>
              obtain ⟨k, hk, rfl, rfl, hbk⟩ := hrel
              by_cases hlt : k < m
              · have k1 : k < xs.length := by have := HM.out; omega
                have ik : (k : Int) < (m : Int) := by omega
                have k5 : k < 512 := by have := HLX.out; omega
                obtain ⟨b0, off, rfl, hbb, gk⟩ := hx6 k _ (natI_at k1)
                have gk1 := (hbk.cell (p := ⟨b0, off + k, none⟩) hbb).trans gk
                have h512 := HX.out k hlt
                have hand := and_i64 h512 hq
                have HNX : Hid (hasTo xs q (k + 1) = (hasTo xs q k || decide (xs.getD k 0 &&& q = xs.getD k 0))) := rfl
                have HPk : Hid (∀ j, j < k → xs.getD k 0 &&& xs.getD j 0 ≠ xs.getD j 0 ∧ xs.getD k 0 &&& xs.getD j 0 ≠ xs.getD k 0) := fun j hj => HP.out j k hj hlt
                have HEk : Hid (∀ j, j < p → xs.getD k 0 &&& ys.getD j 0 ≠ 0) := fun j hj => HE.out k j hlt hj
                generalize xs.getD k 0 = x at *
                cases hv : hasTo xs q k with
                | true =>
                  rw [hv] at HNX
                  have HV : Hid (hasTo xs q (k + 1) = true) := by rw [Hid, HNX.out]; rfl
                  clear HNX hv hand
                  go_wp2_with fail
                  go_quiet (fail)
                  go_wp2_with fail
                  go_loopw [14] (fun t wr => ∃ j : Nat, j ≤ k ∧ t = .int .i64 (j : Nat) ∧ Below w6.heap.size w6 wr) (fun t _ => k - (intOf t).toNat)
                  case atStart => exact ⟨0, by omega, rfl, belowN hbk _⟩
                  case round =>
                    clear gk1
                    obtain ⟨j, hj, rfl, hbj⟩ := hrel
                    have gk1 := (hbj.cell (p := ⟨b0, off + k, none⟩) hbb).trans gk
                    by_cases hlj : j < k
                    · have j1 : j < xs.length := by have := HM.out; omega
                      have ij : (j : Int) < (m : Int) := by omega
                      obtain ⟨b', off', e, hbb', gj0⟩ := hx6 j _ (natI_at j1)
                      injection e with e
                      injection e with e1 e2
                      subst e1 e2
                      have gj1 := (hbj.cell (p := ⟨b0, off + j, none⟩) hbb).trans gj0
                      have hpr := HPk.out j hlj
                      have handj := and_i64 h512 (HX.out j (by omega))
                      generalize xs.getD j 0 = y at *
                      generalize x &&& y = z at *
                      have dz1 : (((z : Nat) : Int) == ((y : Nat) : Int)) = false := by have := hpr.1; simp; omega
                      have dz2 : (((z : Nat) : Int) == ((x : Nat) : Int)) = false := by have := hpr.2; simp; omega
                      clear hpr gj0
                      go_wp2_with fail
                      go_quiet (fail)
                      go_wp2_with fail
                      go_roundw
                      case rel => first
                        | exact ⟨j + 1, by omega, by go_num, belowN hbj _⟩
                        | ((repeat apply Exists.intro); exact ⟨⟨j + 1, by omega, by go_num, belowN hbj _⟩, rfl⟩)
                      case measure => simp [intOf]; omega
                    · go_wp2_with fail
                      go_loopw [15] (fun t wr => ∃ j : Nat, j ≤ p ∧ t = .int .i64 (j : Nat) ∧ Below w6.heap.size w6 wr) (fun t _ => p - (intOf t).toNat)
                      case atStart => exact ⟨0, by omega, rfl, hbj⟩
                      case round =>
                        clear gk1
                        obtain ⟨i, hi, rfl, hbi⟩ := hrel
                        have gk1 := (hbi.cell (p := ⟨b0, off + k, none⟩) hbb).trans gk
                        by_cases hli : i < p
                        · have i1 : i < ys.length := by have := HPL.out; omega
                          have ii : (i : Int) < (p : Int) := by omega
                          have i5 : i < 512 := by have := HLY.out; omega
                          obtain ⟨b', off', rfl, hbb', gi0⟩ := hy6 i _ (natI_at i1)
                          have gi1 := (hbi.cell (p := ⟨b', off' + i, none⟩) hbb').trans gi0
                          have hpr := HEk.out i hli
                          have handj := and_i64 h512 (HY.out i hli)
                          generalize ys.getD i 0 = y at *
                          generalize x &&& y = z at *
                          have dz1 : (((z : Nat) : Int) == 0) = false := by simp; omega
                          clear hpr gi0
                          go_wp2_with fail
                          go_quiet (fail)
                          go_wp2_with fail
                          go_roundw
                          case rel => exact ⟨i + 1, by omega, by go_num, belowN hbi _⟩
                          case measure => simp [intOf]; omega
                        · go_wp2_with fail
                          go_roundw
                          case rel => first
                            | exact ⟨k + 1, by omega, by rw [HV.out], by go_num, hbi⟩
                            | ((repeat apply Exists.intro); refine ⟨⟨k + 1, by omega, ?_, ?_, hbi⟩, rfl⟩; (· rw [HV.out]); (· go_num))
                          case measure => simp [intOf]; omega
                | false =>
                  rw [hv] at HNX
                  have HV : Hid (hasTo xs q (k + 1) = (((x &&& q : Nat) : Int) == ((x : Nat) : Int))) := by
                    rw [Hid, HNX.out, Bool.eq_iff_iff]
                    simp only [Bool.false_or, decide_eq_true_eq, beq_iff_eq]
                    omega
                  generalize x &&& q = xq at *
                  clear HNX hv
                  go_wp2_with fail
                  go_quiet (fail)
                  go_wp2_with fail
                  go_loopw [14] (fun t wr => ∃ j : Nat, j ≤ k ∧ t = .int .i64 (j : Nat) ∧ Below w6.heap.size w6 wr) (fun t _ => k - (intOf t).toNat)
                  case atStart => exact ⟨0, by omega, rfl, belowN hbk _⟩
                  case round =>
                    clear gk1
                    obtain ⟨j, hj, rfl, hbj⟩ := hrel
                    have gk1 := (hbj.cell (p := ⟨b0, off + k, none⟩) hbb).trans gk
                    by_cases hlj : j < k
                    · have j1 : j < xs.length := by have := HM.out; omega
                      have ij : (j : Int) < (m : Int) := by omega
                      obtain ⟨b', off', e, hbb', gj0⟩ := hx6 j _ (natI_at j1)
                      injection e with e
                      injection e with e1 e2
                      subst e1 e2
                      have gj1 := (hbj.cell (p := ⟨b0, off + j, none⟩) hbb).trans gj0
                      have hpr := HPk.out j hlj
                      have handj := and_i64 h512 (HX.out j (by omega))
                      generalize xs.getD j 0 = y at *
                      generalize x &&& y = z at *
                      have dz1 : (((z : Nat) : Int) == ((y : Nat) : Int)) = false := by have := hpr.1; simp; omega
                      have dz2 : (((z : Nat) : Int) == ((x : Nat) : Int)) = false := by have := hpr.2; simp; omega
                      clear hpr gj0
                      go_wp2_with fail
                      go_quiet (fail)
                      go_wp2_with fail
                      go_roundw
                      case rel => first
                        | exact ⟨j + 1, by omega, by go_num, belowN hbj _⟩
                        | ((repeat apply Exists.intro); exact ⟨⟨j + 1, by omega, by go_num, belowN hbj _⟩, rfl⟩)
                      case measure => simp [intOf]; omega
                    · go_wp2_with fail
                      go_loopw [15] (fun t wr => ∃ j : Nat, j ≤ p ∧ t = .int .i64 (j : Nat) ∧ Below w6.heap.size w6 wr) (fun t _ => p - (intOf t).toNat)
                      case atStart => exact ⟨0, by omega, rfl, hbj⟩
                      case round =>
                        clear gk1
                        obtain ⟨i, hi, rfl, hbi⟩ := hrel
                        have gk1 := (hbi.cell (p := ⟨b0, off + k, none⟩) hbb).trans gk
                        by_cases hli : i < p
                        · have i1 : i < ys.length := by have := HPL.out; omega
                          have ii : (i : Int) < (p : Int) := by omega
                          have i5 : i < 512 := by have := HLY.out; omega
                          obtain ⟨b', off', rfl, hbb', gi0⟩ := hy6 i _ (natI_at i1)
                          have gi1 := (hbi.cell (p := ⟨b', off' + i, none⟩) hbb').trans gi0
                          have hpr := HEk.out i hli
                          have handj := and_i64 h512 (HY.out i hli)
                          generalize ys.getD i 0 = y at *
                          generalize x &&& y = z at *
                          have dz1 : (((z : Nat) : Int) == 0) = false := by simp; omega
                          clear hpr gi0
                          go_wp2_with fail
                          go_quiet (fail)
                          go_wp2_with fail
                          go_roundw
                          case rel => exact ⟨i + 1, by omega, by go_num, belowN hbi _⟩
                          case measure => simp [intOf]; omega
                        · go_wp2_with fail
                          go_roundw
                          case rel => first
                            | exact ⟨k + 1, by omega, by rw [HV.out], by go_num, hbi⟩
                            | ((repeat apply Exists.intro); refine ⟨⟨k + 1, by omega, ?_, ?_, hbi⟩, rfl⟩; (· rw [HV.out]); (· go_num))
                          case measure => simp [intOf]; omega
              · obtain rfl : k = m := by omega
                have LK := L6.step hbk L6.lt
                have hxk := hx6.below hbk (Nat.le_refl _)
                have hx7 := hxk.more (B' := wr.heap.size) hbk.size
                have c0 := LK.c0
                have c1 := LK.c1
                rw [HQ.out.1]
                have hjc := HQ.out.2 wr LK.edges
                generalize J q = v at *
                cases v with
                | true => 
                  go_wp2_with fail
                  refine hjc.mono ?_
                  rintro e7 w7 ⟨rfl, hb7⟩
                  have L7 := LK.step hb7 LK.lt
                  go_wp2_with fail
                  refine (ascend_any _ _ _ _ _ (hx7.below hb7 (Nat.le_refl _) |>.more hb7.size) HM.out HLEN.out HT.out).mono ?_
                  rintro e8 w8 ⟨rfl, hb8⟩
                  have L8 := L7.step hb8 L7.lt
                  go_wp2_with fail
                  go_returns
                  exact ⟨rfl, HB.out.trans (L8.below.mono s1)⟩
                | false => 
                  go_wp2_with fail
                  refine hjc.mono ?_
                  rintro e7 w7 ⟨rfl, hb7⟩
                  have L7 := LK.step hb7 LK.lt
                  go_wp2_with fail
                  refine (ascend_any _ _ _ _ _ (hx7.below hb7 (Nat.le_refl _) |>.more hb7.size) HM.out HLEN.out HT.out).mono ?_
                  rintro e8 w8 ⟨rfl, hb8⟩
                  have L8 := L7.step hb8 L7.lt
                  go_wp2_with fail
                  go_returns
                  exact ⟨rfl, HB.out.trans (L8.below.mono s1)⟩
          · go_wp2_with fail
            refine (HC.out _ L5.edges).mono ?_
            rintro e6 w6 ⟨g6, c6, rfl, own6, hb6⟩
            have L6 := L5.step hb6 L5.lt
            have F6 := F5.next hb6
            have hx6 := F6.ints
            have hy6 := own6.ints
            clear L5 F5 F6 own6 hb6 c0 c1 hP
            go_wp2_with fail
            go_loopw [11, 13] (fun v t wr => ∃ k : Nat, k ≤ m ∧ v = .bool (hasTo xs q k) ∧ t = .int .i64 (k : Nat) ∧ Below w6.heap.size w6 wr) (fun _ t _ => m - (intOf t).toNat)
            case atStart => exact ⟨0, by omega, rfl, rfl, Below.refl _ _⟩
            case round =>
              obtain ⟨k, hk, rfl, rfl, hbk⟩ := hrel
              by_cases hlt : k < m
              · have k1 : k < xs.length := by have := HM.out; omega
                have ik : (k : Int) < (m : Int) := by omega
                have k5 : k < 512 := by have := HLX.out; omega
                obtain ⟨b0, off, rfl, hbb, gk⟩ := hx6 k _ (natI_at k1)
                have gk1 := (hbk.cell (p := ⟨b0, off + k, none⟩) hbb).trans gk
                have h512 := HX.out k hlt
                have hand := and_i64 h512 hq
                have HNX : Hid (hasTo xs q (k + 1) = (hasTo xs q k || decide (xs.getD k 0 &&& q = xs.getD k 0))) := rfl
                have HPk : Hid (∀ j, j < k → xs.getD k 0 &&& xs.getD j 0 ≠ xs.getD j 0 ∧ xs.getD k 0 &&& xs.getD j 0 ≠ xs.getD k 0) := fun j hj => HP.out j k hj hlt
                have HEk : Hid (∀ j, j < p → xs.getD k 0 &&& ys.getD j 0 ≠ 0) := fun j hj => HE.out k j hlt hj
                generalize xs.getD k 0 = x at *
                cases hv : hasTo xs q k with
                | true =>
                  rw [hv] at HNX
                  have HV : Hid (hasTo xs q (k + 1) = true) := by rw [Hid, HNX.out]; rfl
                  clear HNX hv hand
                  go_wp2_with fail
                  go_quiet (fail)
                  go_wp2_with fail
                  go_loopw [14] (fun t wr => ∃ j : Nat, j ≤ k ∧ t = .int .i64 (j : Nat) ∧ Below w6.heap.size w6 wr) (fun t _ => k - (intOf t).toNat)
                  case atStart => exact ⟨0, by omega, rfl, belowN hbk _⟩
                  case round =>
                    clear gk1
                    obtain ⟨j, hj, rfl, hbj⟩ := hrel
                    have gk1 := (hbj.cell (p := ⟨b0, off + k, none⟩) hbb).trans gk
                    by_cases hlj : j < k
                    · have j1 : j < xs.length := by have := HM.out; omega
                      have ij : (j : Int) < (m : Int) := by omega
                      obtain ⟨b', off', e, hbb', gj0⟩ := hx6 j _ (natI_at j1)
                      injection e with e
                      injection e with e1 e2
                      subst e1 e2
                      have gj1 := (hbj.cell (p := ⟨b0, off + j, none⟩) hbb).trans gj0
                      have hpr := HPk.out j hlj
                      have handj := and_i64 h512 (HX.out j (by omega))
                      generalize xs.getD j 0 = y at *
                      generalize x &&& y = z at *
                      have dz1 : (((z : Nat) : Int) == ((y : Nat) : Int)) = false := by have := hpr.1; simp; omega
                      have dz2 : (((z : Nat) : Int) == ((x : Nat) : Int)) = false := by have := hpr.2; simp; omega
                      clear hpr gj0
                      go_wp2_with fail
                      go_quiet (fail)
                      go_wp2_with fail
                      go_roundw
                      case rel => first
                        | exact ⟨j + 1, by omega, by go_num, belowN hbj _⟩
                        | ((repeat apply Exists.intro); exact ⟨⟨j + 1, by omega, by go_num, belowN hbj _⟩, rfl⟩)
                      case measure => simp [intOf]; omega
                    · go_wp2_with fail
                      go_loopw [15] (fun t wr => ∃ j : Nat, j ≤ p ∧ t = .int .i64 (j : Nat) ∧ Below w6.heap.size w6 wr) (fun t _ => p - (intOf t).toNat)
                      case atStart => exact ⟨0, by omega, rfl, hbj⟩
                      case round =>
                        clear gk1
                        obtain ⟨i, hi, rfl, hbi⟩ := hrel
                        have gk1 := (hbi.cell (p := ⟨b0, off + k, none⟩) hbb).trans gk
                        by_cases hli : i < p
                        · have i1 : i < ys.length := by have := HPL.out; omega
                          have ii : (i : Int) < (p : Int) := by omega
                          have i5 : i < 512 := by have := HLY.out; omega
                          obtain ⟨b', off', rfl, hbb', gi0⟩ := hy6 i _ (natI_at i1)
                          have gi1 := (hbi.cell (p := ⟨b', off' + i, none⟩) hbb').trans gi0
                          have hpr := HEk.out i hli
                          have handj := and_i64 h512 (HY.out i hli)
                          generalize ys.getD i 0 = y at *
                          generalize x &&& y = z at *
                          have dz1 : (((z : Nat) : Int) == 0) = false := by simp; omega
                          clear hpr gi0
                          go_wp2_with fail
                          go_quiet (fail)
                          go_wp2_with fail
                          go_roundw
                          case rel => exact ⟨i + 1, by omega, by go_num, belowN hbi _⟩
                          case measure => simp [intOf]; omega
                        · go_wp2_with fail
                          go_roundw
                          case rel => first
                            | exact ⟨k + 1, by omega, by rw [HV.out], by go_num, hbi⟩
                            | ((repeat apply Exists.intro); refine ⟨⟨k + 1, by omega, ?_, ?_, hbi⟩, rfl⟩; (· rw [HV.out]); (· go_num))
                          case measure => simp [intOf]; omega
                | false =>
                  rw [hv] at HNX
                  have HV : Hid (hasTo xs q (k + 1) = (((x &&& q : Nat) : Int) == ((x : Nat) : Int))) := by
                    rw [Hid, HNX.out, Bool.eq_iff_iff]
                    simp only [Bool.false_or, decide_eq_true_eq, beq_iff_eq]
                    omega
                  generalize x &&& q = xq at *
                  clear HNX hv
                  go_wp2_with fail
                  go_quiet (fail)
                  go_wp2_with fail
                  go_loopw [14] (fun t wr => ∃ j : Nat, j ≤ k ∧ t = .int .i64 (j : Nat) ∧ Below w6.heap.size w6 wr) (fun t _ => k - (intOf t).toNat)
                  case atStart => exact ⟨0, by omega, rfl, belowN hbk _⟩
                  case round =>
                    clear gk1
                    obtain ⟨j, hj, rfl, hbj⟩ := hrel
                    have gk1 := (hbj.cell (p := ⟨b0, off + k, none⟩) hbb).trans gk
                    by_cases hlj : j < k
                    · have j1 : j < xs.length := by have := HM.out; omega
                      have ij : (j : Int) < (m : Int) := by omega
                      obtain ⟨b', off', e, hbb', gj0⟩ := hx6 j _ (natI_at j1)
                      injection e with e
                      injection e with e1 e2
                      subst e1 e2
                      have gj1 := (hbj.cell (p := ⟨b0, off + j, none⟩) hbb).trans gj0
                      have hpr := HPk.out j hlj
                      have handj := and_i64 h512 (HX.out j (by omega))
                      generalize xs.getD j 0 = y at *
                      generalize x &&& y = z at *
                      have dz1 : (((z : Nat) : Int) == ((y : Nat) : Int)) = false := by have := hpr.1; simp; omega
                      have dz2 : (((z : Nat) : Int) == ((x : Nat) : Int)) = false := by have := hpr.2; simp; omega
                      clear hpr gj0
                      go_wp2_with fail
                      go_quiet (fail)
                      go_wp2_with fail
                      go_roundw
                      case rel => first
                        | exact ⟨j + 1, by omega, by go_num, belowN hbj _⟩
                        | ((repeat apply Exists.intro); exact ⟨⟨j + 1, by omega, by go_num, belowN hbj _⟩, rfl⟩)
                      case measure => simp [intOf]; omega
                    · go_wp2_with fail
                      go_loopw [15] (fun t wr => ∃ j : Nat, j ≤ p ∧ t = .int .i64 (j : Nat) ∧ Below w6.heap.size w6 wr) (fun t _ => p - (intOf t).toNat)
                      case atStart => exact ⟨0, by omega, rfl, hbj⟩
                      case round =>
                        clear gk1
                        obtain ⟨i, hi, rfl, hbi⟩ := hrel
                        have gk1 := (hbi.cell (p := ⟨b0, off + k, none⟩) hbb).trans gk
                        by_cases hli : i < p
                        · have i1 : i < ys.length := by have := HPL.out; omega
                          have ii : (i : Int) < (p : Int) := by omega
                          have i5 : i < 512 := by have := HLY.out; omega
                          obtain ⟨b', off', rfl, hbb', gi0⟩ := hy6 i _ (natI_at i1)
                          have gi1 := (hbi.cell (p := ⟨b', off' + i, none⟩) hbb').trans gi0
                          have hpr := HEk.out i hli
                          have handj := and_i64 h512 (HY.out i hli)
                          generalize ys.getD i 0 = y at *
                          generalize x &&& y = z at *
                          have dz1 : (((z : Nat) : Int) == 0) = false := by simp; omega
                          clear hpr gi0
                          go_wp2_with fail
                          go_quiet (fail)
                          go_wp2_with fail
                          go_roundw
                          case rel => exact ⟨i + 1, by omega, by go_num, belowN hbi _⟩
                          case measure => simp [intOf]; omega
                        · go_wp2_with fail
                          go_roundw
                          case rel => first
                            | exact ⟨k + 1, by omega, by rw [HV.out], by go_num, hbi⟩
                            | ((repeat apply Exists.intro); refine ⟨⟨k + 1, by omega, ?_, ?_, hbi⟩, rfl⟩; (· rw [HV.out]); (· go_num))
                          case measure => simp [intOf]; omega
              · obtain rfl : k = m := by omega
                have LK := L6.step hbk L6.lt
                have hxk := hx6.below hbk (Nat.le_refl _)
                have hx7 := hxk.more (B' := wr.heap.size) hbk.size
                have c0 := LK.c0
                have c1 := LK.c1
                rw [HQ.out.1]
                have hjc := HQ.out.2 wr LK.edges
                generalize J q = v at *
                cases v with
                | true => 
                  go_wp2_with fail
                  refine hjc.mono ?_
                  rintro e7 w7 ⟨rfl, hb7⟩
                  have L7 := LK.step hb7 LK.lt
                  go_wp2_with fail
                  refine (ascend_any _ _ _ _ _ (hx7.below hb7 (Nat.le_refl _) |>.more hb7.size) HM.out HLEN.out HT.out).mono ?_
                  rintro e8 w8 ⟨rfl, hb8⟩
                  have L8 := L7.step hb8 L7.lt
                  go_wp2_with fail
                  go_returns
                  exact ⟨rfl, HB.out.trans (L8.below.mono s1)⟩
                | false => 
                  go_wp2_with fail
                  refine hjc.mono ?_
                  rintro e7 w7 ⟨rfl, hb7⟩
                  have L7 := LK.step hb7 LK.lt
                  go_wp2_with fail
                  refine (ascend_any _ _ _ _ _ (hx7.below hb7 (Nat.le_refl _) |>.more hb7.size) HM.out HLEN.out HT.out).mono ?_
                  rintro e8 w8 ⟨rfl, hb8⟩
                  have L8 := L7.step hb8 L7.lt
                  go_wp2_with fail
                  go_returns
                  exact ⟨rfl, HB.out.trans (L8.below.mono s1)⟩
    · have hnil : pathsN n es a b = [] := if_neg hok
      rw [hnil] at HI HS
      have HLEN : Hid (([] : List Nat).length ≤ 1048576) := by simp [Hid]
      have HLM : Hid ((natI []).length = ([] : List Nat).length) := rfl
      clear hnil
      by_cases hnet : netOkB n es = true
      · have HNET := Lib.hid hnet
        by_cases hab : a = b
        · subst hab
          clear hok hnet
          go_wp2_with fail
          refine (HI.out _ L1.edges).mono ?_
          rintro e2 w2 ⟨g2, c2, rfl, own2, hb2⟩
          have L2 := L1.step hb2 L1.lt
          have F2 := RowAt.start (OwnI.more own2 (show w1.heap.size ≤ _ by simp))
          clear hb2 own2 L1
          have c0 := L2.c0
          have c1 := L2.c1
          go_wp2_with fail
          refine (HS.out _ L2.edges).mono ?_
          rintro e3 w3 ⟨g3, c3, rfl, own3, hb3⟩
          have L3 := L2.step hb3 L2.lt
          have F3 := F2.next hb3
          clear hb3 L2 F2 c0 c1
          go_wp2_with fail
          refine (sameInts_self _ _ _ _ _ _ _ F3.ints own3.ints HLM.out HLEN.out).mono ?_
          rintro e4 w4 ⟨rfl, hb4⟩
          have L4 := L3.step hb4 L3.lt
          have F4 := F3.next hb4
          clear hb4 L3 F3 own3
          have c0 := L4.c0
          have c1 := L4.c1
          go_wp2_with fail
          refine (HN.out _ _ HNET.out L4.edges).mono ?_
          rintro e5 w5 ⟨rfl, hb5⟩
          have L5 := L4.step hb5 L4.lt
          have F5 := F4.next hb5
          clear hb5 L4 F4 c0 c1
          have c0 := L5.c0
          have c1 := L5.c1
          go_wp2_with fail
          refine (alive_any _).mono ?_
          rintro e6 w6 ⟨rfl, hb6⟩
          have L6 := L5.step hb6 L5.lt
          go_wp2_with fail
          go_returns
          exact ⟨rfl, HB.out.trans (L6.below.mono s1)⟩
        · have dab : (a == b) = false := by simpa using hab
          by_cases han : n < a
          · clear hok hnet hab
            go_wp2_with fail
            refine (HI.out _ L1.edges).mono ?_
            rintro e2 w2 ⟨g2, c2, rfl, own2, hb2⟩
            have L2 := L1.step hb2 L1.lt
            have F2 := RowAt.start (OwnI.more own2 (show w1.heap.size ≤ _ by simp))
            clear hb2 own2 L1
            have c0 := L2.c0
            have c1 := L2.c1
            go_wp2_with fail
            refine (HS.out _ L2.edges).mono ?_
            rintro e3 w3 ⟨g3, c3, rfl, own3, hb3⟩
            have L3 := L2.step hb3 L2.lt
            have F3 := F2.next hb3
            clear hb3 L2 F2 c0 c1
            go_wp2_with fail
            refine (sameInts_self _ _ _ _ _ _ _ F3.ints own3.ints HLM.out HLEN.out).mono ?_
            rintro e4 w4 ⟨rfl, hb4⟩
            have L4 := L3.step hb4 L3.lt
            have F4 := F3.next hb4
            clear hb4 L3 F3 own3
            have c0 := L4.c0
            have c1 := L4.c1
            go_wp2_with fail
            refine (HN.out _ _ HNET.out L4.edges).mono ?_
            rintro e5 w5 ⟨rfl, hb5⟩
            have L5 := L4.step hb5 L4.lt
            have F5 := F4.next hb5
            clear hb5 L4 F4 c0 c1
            have c0 := L5.c0
            have c1 := L5.c1
            go_wp2_with fail
            refine (alive_any _).mono ?_
            rintro e6 w6 ⟨rfl, hb6⟩
            have L6 := L5.step hb6 L5.lt
            go_wp2_with fail
            go_returns
            exact ⟨rfl, HB.out.trans (L6.below.mono s1)⟩
          · have hbn : n < b := by
              refine Decidable.byContradiction fun h => hok (joinOkB_iff.2 ⟨hnet, ⟨by omega, by omega⟩, ⟨by omega, by omega⟩, hab⟩)
            have dA : decide (n < a) = false := by simp; omega
            clear hok hnet hab
            go_wp2_with fail
            refine (HI.out _ L1.edges).mono ?_
            rintro e2 w2 ⟨g2, c2, rfl, own2, hb2⟩
            have L2 := L1.step hb2 L1.lt
            have F2 := RowAt.start (OwnI.more own2 (show w1.heap.size ≤ _ by simp))
            clear hb2 own2 L1
            have c0 := L2.c0
            have c1 := L2.c1
            go_wp2_with fail
            refine (HS.out _ L2.edges).mono ?_
            rintro e3 w3 ⟨g3, c3, rfl, own3, hb3⟩
            have L3 := L2.step hb3 L2.lt
            have F3 := F2.next hb3
            clear hb3 L2 F2 c0 c1
            go_wp2_with fail
            refine (sameInts_self _ _ _ _ _ _ _ F3.ints own3.ints HLM.out HLEN.out).mono ?_
            rintro e4 w4 ⟨rfl, hb4⟩
            have L4 := L3.step hb4 L3.lt
            have F4 := F3.next hb4
            clear hb4 L3 F3 own3
            have c0 := L4.c0
            have c1 := L4.c1
            go_wp2_with fail
            refine (HN.out _ _ HNET.out L4.edges).mono ?_
            rintro e5 w5 ⟨rfl, hb5⟩
            have L5 := L4.step hb5 L4.lt
            have F5 := F4.next hb5
            clear hb5 L4 F4 c0 c1
            have c0 := L5.c0
            have c1 := L5.c1
            go_wp2_with fail
            refine (alive_any _).mono ?_
            rintro e6 w6 ⟨rfl, hb6⟩
            have L6 := L5.step hb6 L5.lt
            go_wp2_with fail
            go_returns
            exact ⟨rfl, HB.out.trans (L6.below.mono s1)⟩
      · have HNET : Hid (netOkB n es = false) := by simpa [Hid] using hnet
        clear hok hnet
        go_wp2_with fail
        refine (HI.out _ L1.edges).mono ?_
        rintro e2 w2 ⟨g2, c2, rfl, own2, hb2⟩
        have L2 := L1.step hb2 L1.lt
        have F2 := RowAt.start (OwnI.more own2 (show w1.heap.size ≤ _ by simp))
        clear hb2 own2 L1
        have c0 := L2.c0
        have c1 := L2.c1
        go_wp2_with fail
        refine (HS.out _ L2.edges).mono ?_
        rintro e3 w3 ⟨g3, c3, rfl, own3, hb3⟩
        have L3 := L2.step hb3 L2.lt
        have F3 := F2.next hb3
        clear hb3 L2 F2 c0 c1
        go_wp2_with fail
        refine (sameInts_self _ _ _ _ _ _ _ F3.ints own3.ints HLM.out HLEN.out).mono ?_
        rintro e4 w4 ⟨rfl, hb4⟩
        have L4 := L3.step hb4 L3.lt
        have F4 := F3.next hb4
        clear hb4 L3 F3 own3
        have c0 := L4.c0
        have c1 := L4.c1
        go_wp2_with fail
        refine (HN.out _ _ HNET.out L4.edges).mono ?_
        rintro e5 w5 ⟨rfl, hb5⟩
        have L5 := L4.step hb5 L4.lt
        have F5 := F4.next hb5
        clear hb5 L4 F4 c0 c1
        have c0 := L5.c0
        have c1 := L5.c1
        go_wp2_with fail
        refine (alive_any _).mono ?_
        rintro e6 w6 ⟨rfl, hb6⟩
        have L6 := L5.step hb6 L5.lt
        go_wp2_with fail
        go_returns
        exact ⟨rfl, HB.out.trans (L6.below.mono s1)⟩

namespace fnPathsOf
open Go.ChangeShapes Go.WideShapes Go.ChangeAt Go.RowKit Go.Deep Go.Joins
set_option linter.unusedVariables false
set_option maxRecDepth 100000 in
theorem lifted (os : Os) (started : os.Started) (H : Type) (enc : TypeId × Value → H) :
    ReturnsInHanded {} Try.checked os 11 .any (Rows.fnPathsOfSpec.pre6 enc Try.prog Try.f11 Rows.fnPathsOfRow.domain false) (Rows.fnPathsOfSpec.post enc Try.prog Try.f11 false true false false) := by
  refine returnsInHanded_of_change (C := Try.checked) own started (by kernel_rfl) Try.func11
    (ChangeSpec.witness6 (enc := enc) (C := Try.checked) false ⟨#[], #[.slice none 0 0, .slice none 0 0], []⟩ 8 (by kernel_rfl) (by kernel_rfl) (by kernel_rfl) (by kernel_rfl)) ?_
  intro W base args ds gs before hval0 hW hcnd _
  have hval : ∀ (j : Nat) t v, Try.f11.params[j]? = some t → args[j]? = some v → Value.okWide Try.prog W .any base t v := hval0
  have hW' := hW
  obtain ⟨p, q, hA0, hV, rfl, hfz, hnd⟩ := hW
  have hA : DataW.TrodAll enc Try.prog W 0 (fun _ => true) true Try.f11.params.toList args.toList ds p := hA0
  rw [Try.params11] at hA hval
  obtain ⟨v0, vs0, d0, ds0, p0, q0, hargs, rfl, rfl, h0, r0⟩ := trodAll_cons hA
  obtain ⟨v1, vs1, d1, ds1, p1, q1, rfl, rfl, rfl, h1, r1⟩ := trodAll_cons r0
  obtain ⟨rfl, rfl, rfl⟩ := trodAll_nil r1
  obtain rfl : args = #[v0, v1] := by cases args; simp_all
  obtain ⟨rfl, rfl⟩ := trodVars_none hV
  have k0 := h0
  have lt0 : ∀ x ∈ p0, x.block < W.heap.size := by obtain ⟨m, hm⟩ := k0; exact DataW.trod_lt m _ _ _ hm
  obtain ⟨A0, c0, bs0, rfl, hb0, hl0⟩ := open_bytes (hval 0 22 v0 rfl rfl) h0
  have k1 := h1
  have lt1 : ∀ x ∈ p1, x.block < W.heap.size := by obtain ⟨m, hm⟩ := k1; exact DataW.trod_lt m _ _ _ hm
  obtain ⟨A1, c1, bs1, rfl, hb1, hl1⟩ := open_bytes (hval 1 22 v1 rfl rfl) h1
  clear hA0 hval0
  refine (pathsOf_law A0 c0 bs0 A1 c1 bs1 W hb0 hl0 hb1 hl1).mono fun e W' ⟨he, bel⟩ => ?_
  subst he
  exact ⟨_, rfl, _, _, _, [], _, [], hW', trodAll_mk1 (shut_bool Try.underlying4 _), (trodAll_cons_mk (Below.trod laidOut (by kernel_rfl) (of_decide_eq_true (by kernel_rfl)) k0 bel lt0) (trodAll_cons_mk (Below.trod laidOut (by kernel_rfl) (of_decide_eq_true (by kernel_rfl)) k1 bel lt1) trodAll_mk0)), rfl, bel.frame _, fun h => by cases h⟩

theorem holds : Rows.FnPathsOfSaid :=
  OpenClaim.holds_of_wide 11 Try.f11 rfl rfl rfl rfl rfl rfl rfl ⟨rfl, rfl, rfl, rfl, rfl⟩ rfl rfl rfl rfl rfl (by kernel_rfl) Try.func11 (by kernel_rfl)
    (of_decide_eq_true (by kernel_rfl)) (by unfold Func.isWrapper; first | (rw [if_pos (by decide +kernel)]; kernel_rfl) | (rw [if_neg (by decide +kernel)]; exact ⟨rfl, rfl⟩))
    (fun os started H enc _ => lifted os started H enc)
end fnPathsOf

end Go.Proofs.Ytlcgbmeneajfoab
