/- The law FnCountAllBack holds of every code: the program answers as the reference does; it is 0 exactly for nets with an edge without which there are more pieces; and with the ways without a return there are no more than all. -/
import Derived.Test.YtdacfeebidhgnabBytes
import Derived.Test.YtdacfeebidhgnabVals
import Derived.Test.YtdacfeebidhgnabBases
import Derived.Test.YtdacfeebidhgnabDraw11
import Derived.Test.YtdacfeebidhgnabImpl11e
import Derived.Test.YtdacfeebidhgnabImpl10d
namespace Go.Proofs.Ytdacfeebidhgnab
open Go.RowKit
set_option maxRecDepth 100000

theorem selL_but : ∀ (l1 : List (Nat × Nat)) (e : Nat × Nat) (l2 : List (Nat × Nat)) (T : Nat → Bool), (∀ i, i < (l1 ++ e :: l2).length → T i = !decide (i = l1.length)) → selL (l1 ++ e :: l2) T = l1 ++ l2
  | [], e, l2, T, h => by
    have h0 : T 0 = false := by rw [h 0 (by simp)]; rfl
    show (if T 0 = true then e :: selL l2 (fun i => T (i + 1)) else selL l2 (fun i => T (i + 1))) = l2
    rw [h0, if_neg (by simp), selL_all l2 _ fun i hi => by rw [h (i + 1) (by simp; omega)]; simp]
  | a :: l1, e, l2, T, h => by
    have h0 : T 0 = true := by rw [h 0 (by simp)]; simp
    show (if T 0 = true then a :: selL (l1 ++ e :: l2) (fun i => T (i + 1)) else selL (l1 ++ e :: l2) (fun i => T (i + 1))) = a :: (l1 ++ l2)
    rw [h0, if_pos rfl, selL_but l1 e l2 _ fun i hi => by rw [h (i + 1) (by simp at hi ⊢; omega)]; simp]
theorem br_at {n : Int} {es : List (Int × Int)} (hn : netOkB n es = true) {l1 l2 : List (Nat × Nat)} {e : Nat × Nat} (he : endsL es = l1 ++ e :: l2) :
    piecesB n es ((2 ^ es.length - 1 : Nat) : Int) < piecesB n es ((2 ^ es.length - 1 - 2 ^ l1.length : Nat) : Int) ↔ allR (l1 ++ l2) (fun x => x) e.1 ≠ allR (l1 ++ l2) (fun x => x) e.2 := by
  have h9 := (netOkB_iff.1 hn).2.1
  have hlen : l1.length + l2.length + 1 = es.length := by have := congrArg List.length he; rw [endsL_length] at this; simp at this; omega
  have hk : l1.length < es.length := by omega
  have hp9 : 2 ^ es.length ≤ 2 ^ 9 := Nat.pow_le_pow_right (by omega) h9
  have hb : (2 ^ es.length - 1).testBit l1.length = true := by
    have := all_bits es.length l1.length hk
    simpa [bits] using this
  obtain ⟨hx, hxl⟩ := xor_sub (s := 2 ^ es.length - 1) (k := l1.length) (by have := Nat.one_le_two_pow (n := es.length); omega) (by omega) hb
  have r1 := rank_pieces (state_of hn (vall_lt es.length))
  have hlt : 2 ^ es.length - 1 - 2 ^ l1.length < 2 ^ es.length := Nat.lt_of_le_of_lt (Nat.sub_le _ _) (vall_lt _)
  have r2 := rank_pieces (state_of hn hlt)
  rw [rank_all] at r1
  have e1 : rkS es ((2 ^ es.length - 1 - 2 ^ l1.length : Nat) : Int) = rkA (l1 ++ l2) fun x => x := by
    unfold rkS
    rw [← hx, xor_bits, rankL_sel, he, selL_but]
    intro i hi
    have hi : i < es.length := by rw [← endsL_length es, he]; exact hi
    unfold flipT
    rw [all_bits es.length i hi]
    by_cases hik : i = l1.length
    · rw [if_pos hik, decide_eq_true hik]
    · rw [if_neg hik, decide_eq_false hik]; rfl
  have e2 : rkN es = rkA (l1 ++ l2) (fun x => x) + if allR (l1 ++ l2) (fun x => x) e.1 = allR (l1 ++ l2) (fun x => x) e.2 then 0 else 1 := by
    unfold rkN; rw [he, rkA_move, rkA_first]
  rw [e1] at r2
  rw [e2] at r1
  clear hx hxl hb hp9 hlt e1 e2
  generalize piecesB n es ((2 ^ es.length - 1 : Nat) : Int) = a at *
  generalize piecesB n es ((2 ^ es.length - 1 - 2 ^ l1.length : Nat) : Int) = b at *
  by_cases hj : allR (l1 ++ l2) (fun x => x) e.1 = allR (l1 ++ l2) (fun x => x) e.2
  · rw [if_pos hj] at r1
    exact ⟨fun h => by omega, fun h => absurd hj h⟩
  · rw [if_neg hj] at r1
    exact ⟨fun _ => hj, fun _ => by omega⟩
theorem allBackI_ok {n : Int} {es : List (Int × Int)} (h : netOkB n es = true) : allBackI n es = ((tcN (fun x => x) (endsL es) : Nat) : Int) := by
  unfold allBackI tcN cP
  rw [if_pos h, endsL_length]
  congr 2
def brTo (D : Nat → Nat) (p : Nat) : Nat → Bool
  | 0 => false
  | k + 1 => brTo D p k || decide (p < D k)
theorem brTo_iff (D : Nat → Nat) (p : Nat) : ∀ k, brTo D p k = true ↔ ∃ j, j < k ∧ p < D j
  | 0 => by simp [brTo]
  | k + 1 => by
    have h := brTo_iff D p k
    unfold brTo
    rw [Bool.or_eq_true, h, decide_eq_true_eq]
    constructor
    · rintro (⟨j, h1, h2⟩ | h1)
      · exact ⟨j, by omega, h2⟩
      · exact ⟨k, by omega, h1⟩
    · rintro ⟨j, h1, h2⟩
      by_cases hjk : j = k
      · subst hjk; exact .inr h2
      · exact .inl ⟨j, by omega, h2⟩
def lessP (n : Int) (es : List (Int × Int)) (k : Nat) : Nat := piecesB n es ((2 ^ es.length - 1 - 2 ^ k : Nat) : Int)
theorem allBack_zero {n : Int} {es : List (Int × Int)} (hn : netOkB n es = true) : (brTo (lessP n es) (piecesB n es ((2 ^ es.length - 1 : Nat) : Int)) es.length = true → allBackI n es = 0) ∧ (brTo (lessP n es) (piecesB n es ((2 ^ es.length - 1 : Nat) : Int)) es.length = false → ¬ allBackI n es = 0) := by
  rw [allBackI_ok hn]
  constructor
  · intro h
    obtain ⟨k, hk, h⟩ := (brTo_iff _ _ _).1 h
    have hk' : k < (endsL es).length := by rw [endsL_length]; exact hk
    have he : endsL es = (endsL es).take k ++ (endsL es)[k] :: (endsL es).drop (k + 1) := by simp
    have hl : ((endsL es).take k).length = k := by simp; omega
    have := br_at hn he
    rw [hl] at this
    rw [he, tcN_none (this.1 h)]; rfl
  · intro h
    have hb : NoBr (endsL es) fun x => x := fun l1 e l2 he => by
      have hlen : l1.length < es.length := by have := congrArg List.length he; rw [endsL_length] at this; simp at this; omega
      have h2 := br_at hn he
      refine Classical.byContradiction fun hc => ?_
      have h3 := (brTo_iff (lessP n es) (piecesB n es ((2 ^ es.length - 1 : Nat) : Int)) es.length).2 ⟨l1.length, hlen, h2.2 hc⟩
      rw [h] at h3; cases h3
    have := tcN_some _ _ hb
    omega
theorem allBack_le {n : Int} {es : List (Int × Int)} (hn : netOkB n es = true) (h0 : 0 < es.length) : allBackI n es + noBackI n es ≤ ((2 ^ es.length : Nat) : Int) := by
  rw [allBackI_ok hn, noBackI_ok hn]
  have := tc_le (es := endsL es) (by rw [endsL_length]; exact h0) fun x => x
  rw [endsL_length] at this
  omega
theorem noBackI_bound {n : Int} {es : List (Int × Int)} (h : netOkB n es = true) : 0 ≤ noBackI n es ∧ noBackI n es ≤ 512 := by
  obtain ⟨P, hP, p1, p2, -, -⟩ := pow_named (show es.length ≤ 9 from (netOkB_iff.1 h).2.1)
  unfold noBackI
  rw [if_pos h, hP]
  have := cP_le (noBackQ es) P
  omega
/-- What the law asks of each edge. -/
theorem less_round {n : Int} {es : List (Int × Int)} (hn : netOkB n es = true) {P Q k : Nat} (hP : 2 ^ es.length = P) (hQ : P - 1 = Q) (hk : k < es.length) : ∃ K d : Nat, wrap64 (2 ^ k) = (K : Int) ∧ IntKind.i64.wrap (2 ^ k) = (K : Int) ∧ IntKind.i64.wrap ((Q : Int) - (K : Int)) = (d : Int) ∧ piecesI n es (d : Nat) = ((lessP n es k : Nat) : Int) := by
  have h9 := (netOkB_iff.1 hn).2.1
  obtain ⟨K, hK, ⟨k1, k2⟩, hk3, hk4⟩ := pow_named8 (show k ≤ 8 by omega)
  have hp9 : 2 ^ es.length ≤ 2 ^ 9 := Nat.pow_le_pow_right (by omega) h9
  have hlt : 2 ^ k < 2 ^ es.length := Nat.pow_lt_pow_right (by omega) hk
  have hlt2 : 2 ^ es.length - 1 - 2 ^ k < 2 ^ es.length := Nat.lt_of_le_of_lt (Nat.sub_le _ _) (vall_lt _)
  have hpc := piecesI_cast (state_of hn hlt2)
  refine ⟨K, Q - K, hk3, hk4, wrap_down rfl (by rw [← hK, ← hQ, ← hP]; omega) (by rw [← hQ, ← hP]; omega), ?_⟩
  rw [← hQ, ← hP, ← hK]; exact hpc

set_option maxHeartbeats 8000000 in
theorem countAllBack_law (A : Option Addr) (cap l : Nat) (w : World) (hb : BytesIn w w.heap.size A l) (hc : l ≤ cap) :
    Calls Try.prog 6 #[.slice A l cap] w fun e w' => e = .returned (.bool true) ∧ Below w.heap.size w w' := by
  by_cases hbig : 1048576 < l
  · go_enter Try.func6, Try.ntmps6
    go_wp2
    go_returns
    exact ⟨rfl, Below.refl _ _⟩
  · have hl : l ≤ 1048576 := by omega
    clear hbig
    go_enter Try.func6, Try.ntmps6
    go_wp2_with fail
    refine (drawCountAllBack_any _ _ _ _ hb hl hc).mono ?_
    rintro e1 w1 ⟨n, A1, c, es, rfl, ed, n1, n7, hle, hcap, hb1⟩
    have L1 := ArgNet.start (cap := c) (n := n) 25 (ed.edges (Nat.le_refl _))
    have HB := Lib.hid hb1
    have hle' : es.length ≤ 1048576 := by omega
    have s1 := Lib.hid hb1.size
    clear ed hb hb1
    have HI : Hid (∀ u, EdgesIn u u.heap.size A1 es → Calls Try.prog 28 #[.agg #[.int .i64 n, .slice A1 es.length c]] u fun e w' => e = .returned (.int .i64 (allBackI n es)) ∧ Below u.heap.size u w') := fun u h => countAllBack_any n A1 c es u h hle'
    have HS : Hid (∀ u, EdgesIn u u.heap.size A1 es → Calls Try.prog 30 #[.agg #[.int .i64 n, .slice A1 es.length c]] u fun e w' => e = .returned (.int .i64 (allBackI n es)) ∧ Below u.heap.size u w') := fun u h => specCountAllBack_any n A1 c es u h hle'
    have c0 := L1.c0
    have c1 := L1.c1
    cases hok : netOkB n es with
    | false =>
      have HN : Hid (∀ u, EdgesIn u u.heap.size A1 es → Calls Try.prog 31 #[.agg #[.int .i64 n, .slice A1 es.length c]] u fun e w' => e = .returned (.bool (netOkB n es)) ∧ Below u.heap.size u w') := fun u h => netOk_any n A1 c es u h hle'
      have hv : allBackI n es = -1 := if_neg (by rw [hok]; simp)
      rw [hv] at HI HS
      rw [hok] at HN
      clear hok hv
      go_wp2_with fail
      refine (HI.out _ L1.edges).mono ?_
      rintro e2 w2 ⟨rfl, hb2⟩
      have L2 := L1.step hb2 L1.lt
      clear hb2 L1 c0 c1
      have c0 := L2.c0
      have c1 := L2.c1
      go_wp2_with fail
      refine (HS.out _ L2.edges).mono ?_
      rintro e3 w3 ⟨rfl, hb3⟩
      have L3 := L2.step hb3 L2.lt
      clear hb3 L2 c0 c1
      have c0 := L3.c0
      have c1 := L3.c1
      go_wp2_with fail
      refine (HN.out _ L3.edges).mono ?_
      rintro e4 w4 ⟨rfl, hb4⟩
      have L4 := L3.step hb4 L3.lt
      clear hb4 L3 c0 c1
      have c0 := L4.c0
      have c1 := L4.c1
      go_wp2_with fail
      refine (alive_any _).mono ?_
      rintro e5 w5 ⟨rfl, hb5⟩
      have L5 := L4.step hb5 L4.lt
      go_wp2_with fail
      go_returns
      exact ⟨by first | rfl | simp, HB.out.trans (L5.below.mono s1.out)⟩
    | true =>
      have h9 := (netOkB_iff.1 hok).2.1
      have HZ := Lib.hid (allBack_zero hok)
      have HLE : Hid (0 < es.length → _) := allBack_le hok
      obtain ⟨z0, z1⟩ := noBackI_bound hok
      have v0 : 0 ≤ allBackI n es := by rw [allBackI_ok hok]; omega
      have HB2 : Hid (∀ u, ArgNet w1 u n A1 c es → Calls Try.prog 27 #[.agg #[.int .i64 n, .slice A1 es.length c]] u fun e w' => e = .returned (.int .i64 (noBackI n es)) ∧ Below u.heap.size u w') := fun u h => countNoBack_any n A1 c es u h.edges hle'
      obtain ⟨P, hP, p1, p2, hp3, hp4⟩ := pow_named h9
      have HP3 := Lib.hid hp3
      have HP4 := Lib.hid hp4
      clear hp3 hp4
      obtain ⟨Q, hQ⟩ : ∃ Q, P - 1 = Q := ⟨_, rfl⟩
      have wq : IntKind.i64.wrap ((P : Int) - 1) = (Q : Int) := by clear hP HP3 HP4; rw [IntWalk.i64_in _ (by omega)]; omega
      have HRD : Hid (∀ k, k < es.length → ∃ K d : Nat, wrap64 (2 ^ k) = (K : Int) ∧ IntKind.i64.wrap (2 ^ k) = (K : Int) ∧ IntKind.i64.wrap ((Q : Int) - (K : Int)) = (d : Int) ∧ piecesI n es (d : Nat) = ((lessP n es k : Nat) : Int)) := fun k hk => less_round hok hP hQ hk
      have HPC : Hid (∀ (d : Nat) u, ArgNet w1 u n A1 c es → Calls Try.prog 32 #[.agg #[.int .i64 n, .slice A1 es.length c], .int .i64 (d : Nat)] u fun e w' => e = .returned (.int .i64 (piecesI n es (d : Nat))) ∧ Below u.heap.size u w') := fun d u h => piecesIn_any n d A1 c es u h.edges hle'
      have hpq := piecesI_cast (state_of hok (vall_lt es.length))
      rw [hP, hQ] at HZ hpq
      rw [hP] at HLE
      have HQ := Lib.hid (HPC.out Q)
      rw [hpq] at HQ
      clear hP hok hpq
      have wz : IntKind.i64.wrap ((P : Int) - noBackI n es) = (P : Int) - noBackI n es := IntWalk.i64_in _ (by omega)
      generalize noBackI n es = Z at *
      generalize allBackI n es = V at *
      generalize piecesB n es (Q : Nat) = p at *
      generalize lessP n es = D at *
      have h9i : ¬ (9 : Int) < es.length := by omega
      have hv0 : ¬ V < 0 := by omega
      go_wp2_with fail
      refine (HI.out _ L1.edges).mono ?_
      rintro e2 w2 ⟨rfl, hb2⟩
      have L2 := L1.step hb2 L1.lt
      clear hb2 L1 c0 c1
      have c0 := L2.c0
      have c1 := L2.c1
      go_wp2_with fail
      refine (HS.out _ L2.edges).mono ?_
      rintro e3 w3 ⟨rfl, hb3⟩
      have L3 := L2.step hb3 L2.lt
      clear hb3 L2 c0 c1
      have c0 := L3.c0
      have c1 := L3.c1
      have hp3 := HP3.out
      have hp4 := HP4.out
      clear HI HS
      have H9 := Lib.hid h9
      have HCP := Lib.hid hcap
      have PP := Lib.hid (And.intro p1 p2)
      clear hle hle' h9 hcap p1 p2 n1 n7 hQ
      go_wp2_with fail
      clear hp3 hp4
      go_loopw [6, 7] (fun v i wr => ∃ k : Nat, k ≤ es.length ∧ i = .int .i64 (k : Nat) ∧ v = .bool (brTo D p k) ∧ ArgNet w1 wr n A1 c es) (fun _ i _ => es.length - (intOf i).toNat)
      case atStart => exact ⟨0, by omega, rfl, rfl, L3⟩
      case round =>
        clear L3 c0 c1
        obtain ⟨k, hk, rfl, rfl, L⟩ := hrel
        have c0 := L.c0
        have c1 := L.c1
        by_cases hkl : k < es.length
        · have hkl' : (k : Int) < es.length := by omega
          have HX : Hid (brTo D p (k + 1) = (brTo D p k || decide (p < D k))) := rfl
          obtain ⟨K, d, x1, x2, x3, x4⟩ := HRD.out k hkl
          have HD := Lib.hid (HPC.out d)
          rw [x4] at HD
          have hk8 : ¬ (8 : Int) < k := by have := H9.out; omega
          clear x4
          generalize D k = t at *
          cases hb : brTo D p k with
          | true =>
            rw [hb] at HX
            clear x1 x2
            go_wp2_with fail
            refine wp_region_class (fun u => ArgNet w1 u n A1 c es) (by kernel_rfl) (by kernel_rfl) L.drew ?_
            clear L c0 c1
            intro X hX f hf hex
            have k0 : ∀ x, (f x).cell? ⟨w1.heap.size, 0, none⟩ = some (.int .i64 n) := fun x => (hf x).c0
            have k1 : ∀ x, (f x).cell? ⟨w1.heap.size, 1, none⟩ = some (.slice A1 es.length c) := fun x => (hf x).c1
            repeat (go_big_quiet_step (fail))
            refine wpQuiet_nil ?_
            rintro _ ⟨x9, rfl⟩
            have F := hf x9
            clear hf hex k0 k1
            go_wp2_with fail
            go_roundw
            case rel => exact ⟨k + 1, by omega, by go_num, by rw [HX.out]; first | rfl | (simp; done) | (simp; omega), F⟩
            case measure => simp [intOf]; omega
          | false =>
            rw [hb] at HX
            by_cases hd : p < t
            · have hd1 : (p : Int) < (t : Int) := by omega
              rw [decide_eq_true hd] at HX
              clear hd
              go_wp2_with fail
              refine wp_region_class (fun u => ArgNet w1 u n A1 c es) (by kernel_rfl) (by kernel_rfl) L.drew ?_
              clear L c0 c1
              intro X hX f hf hex
              have k0 : ∀ x, (f x).cell? ⟨w1.heap.size, 0, none⟩ = some (.int .i64 n) := fun x => (hf x).c0
              have k1 : ∀ x, (f x).cell? ⟨w1.heap.size, 1, none⟩ = some (.slice A1 es.length c) := fun x => (hf x).c1
              repeat (go_big_quiet_step (first | (go_at_call 32; with_reducible exact class_of hex (HD.out _ (hf _)) (hf _).on) | (go_at_call 32; with_reducible exact class_of hex (HQ.out _ (hf _)) (hf _).on)))
              refine wpQuiet_nil ?_
              rintro _ ⟨x9, rfl⟩
              have F := hf x9
              clear hf hex k0 k1
              go_wp2_with fail
              go_roundw
              case rel => exact ⟨k + 1, by omega, by go_num, by rw [HX.out]; first | rfl | (simp; done) | (simp; omega), F⟩
              case measure => simp [intOf]; omega
            · have hd1 : ¬ (p : Int) < (t : Int) := by omega
              rw [decide_eq_false hd] at HX
              clear hd
              go_wp2_with fail
              refine wp_region_class (fun u => ArgNet w1 u n A1 c es) (by kernel_rfl) (by kernel_rfl) L.drew ?_
              clear L c0 c1
              intro X hX f hf hex
              have k0 : ∀ x, (f x).cell? ⟨w1.heap.size, 0, none⟩ = some (.int .i64 n) := fun x => (hf x).c0
              have k1 : ∀ x, (f x).cell? ⟨w1.heap.size, 1, none⟩ = some (.slice A1 es.length c) := fun x => (hf x).c1
              repeat (go_big_quiet_step (first | (go_at_call 32; with_reducible exact class_of hex (HD.out _ (hf _)) (hf _).on) | (go_at_call 32; with_reducible exact class_of hex (HQ.out _ (hf _)) (hf _).on)))
              refine wpQuiet_nil ?_
              rintro _ ⟨x9, rfl⟩
              have F := hf x9
              clear hf hex k0 k1
              go_wp2_with fail
              go_roundw
              case rel => exact ⟨k + 1, by omega, by go_num, by rw [HX.out]; first | rfl | (simp; done) | (simp; omega), F⟩
              case measure => simp [intOf]; omega
        · obtain rfl : k = es.length := by omega
          have hkk : ¬ (es.length : Int) < es.length := by omega
          obtain ⟨hz1, hz2⟩ := HZ.out
          have hp3 := HP3.out
          have hp4 := HP4.out
          cases hb : brTo D p es.length with
          | true =>
            have hv := hz1 hb
            subst hv
            clear hz1 hz2 hb
            by_cases h0 : es.length = 0
            · have e0 : (es.length : Int) = 0 := by omega
              have e1 : ((es.length : Int) == 0) = true := beq_iff_eq.2 e0
              clear h0
              go_wp2_with fail
              refine wp_region_class (fun u => ArgNet w1 u n A1 c es) (by kernel_rfl) (by kernel_rfl) L.drew ?_
              clear L c0 c1
              intro X hX f hf hex
              have k0 : ∀ x, (f x).cell? ⟨w1.heap.size, 0, none⟩ = some (.int .i64 n) := fun x => (hf x).c0
              have k1 : ∀ x, (f x).cell? ⟨w1.heap.size, 1, none⟩ = some (.slice A1 es.length c) := fun x => (hf x).c1
              repeat (go_big_quiet_step (first | (go_at_call 27; with_reducible exact class_of hex (HB2.out _ (hf _)) (hf _).on)))
              refine wpQuiet_nil ?_
              rintro _ ⟨x9, rfl⟩
              have F := hf x9
              clear hf hex k0 k1
              go_wp2_with fail
              go_returns
              exact ⟨by first | rfl | (simp; done) | (simp; omega), HB.out.trans (F.below.mono s1.out)⟩
            · have e0 : ¬ (es.length : Int) = 0 := by omega
              have e1 : ((es.length : Int) == 0) = false := beq_eq_false_iff_ne.2 e0
              have hle := HLE.out (by omega)
              have hle2 : (0 : Int) ≤ (P : Int) - Z := by clear hp3 hp4; omega
              clear h0 hle
              go_wp2_with fail
              refine wp_region_class (fun u => ArgNet w1 u n A1 c es) (by kernel_rfl) (by kernel_rfl) L.drew ?_
              clear L c0 c1
              intro X hX f hf hex
              have k0 : ∀ x, (f x).cell? ⟨w1.heap.size, 0, none⟩ = some (.int .i64 n) := fun x => (hf x).c0
              have k1 : ∀ x, (f x).cell? ⟨w1.heap.size, 1, none⟩ = some (.slice A1 es.length c) := fun x => (hf x).c1
              repeat (go_big_quiet_step (first | (go_at_call 27; with_reducible exact class_of hex (HB2.out _ (hf _)) (hf _).on)))
              refine wpQuiet_nil ?_
              rintro _ ⟨x9, rfl⟩
              have F := hf x9
              clear hf hex k0 k1
              go_wp2_with fail
              go_returns
              exact ⟨by first | rfl | (simp; done) | (simp; omega), HB.out.trans (F.below.mono s1.out)⟩
          | false =>
            have hv := hz2 hb
            have hv1 : (V == 0) = false := beq_eq_false_iff_ne.2 hv
            clear hz1 hz2 hb
            by_cases h0 : es.length = 0
            · have e0 : (es.length : Int) = 0 := by omega
              have e1 : ((es.length : Int) == 0) = true := beq_iff_eq.2 e0
              clear h0
              go_wp2_with fail
              refine wp_region_class (fun u => ArgNet w1 u n A1 c es) (by kernel_rfl) (by kernel_rfl) L.drew ?_
              clear L c0 c1
              intro X hX f hf hex
              have k0 : ∀ x, (f x).cell? ⟨w1.heap.size, 0, none⟩ = some (.int .i64 n) := fun x => (hf x).c0
              have k1 : ∀ x, (f x).cell? ⟨w1.heap.size, 1, none⟩ = some (.slice A1 es.length c) := fun x => (hf x).c1
              repeat (go_big_quiet_step (first | (go_at_call 27; with_reducible exact class_of hex (HB2.out _ (hf _)) (hf _).on)))
              refine wpQuiet_nil ?_
              rintro _ ⟨x9, rfl⟩
              have F := hf x9
              clear hf hex k0 k1
              go_wp2_with fail
              go_returns
              exact ⟨by first | rfl | (simp; done) | (simp; omega), HB.out.trans (F.below.mono s1.out)⟩
            · have e0 : ¬ (es.length : Int) = 0 := by omega
              have e1 : ((es.length : Int) == 0) = false := beq_eq_false_iff_ne.2 e0
              have hle := HLE.out (by omega)
              have hle2 : V ≤ (P : Int) - Z := by clear hp3 hp4; omega
              clear h0 hle
              go_wp2_with fail
              refine wp_region_class (fun u => ArgNet w1 u n A1 c es) (by kernel_rfl) (by kernel_rfl) L.drew ?_
              clear L c0 c1
              intro X hX f hf hex
              have k0 : ∀ x, (f x).cell? ⟨w1.heap.size, 0, none⟩ = some (.int .i64 n) := fun x => (hf x).c0
              have k1 : ∀ x, (f x).cell? ⟨w1.heap.size, 1, none⟩ = some (.slice A1 es.length c) := fun x => (hf x).c1
              repeat (go_big_quiet_step (first | (go_at_call 27; with_reducible exact class_of hex (HB2.out _ (hf _)) (hf _).on)))
              refine wpQuiet_nil ?_
              rintro _ ⟨x9, rfl⟩
              have F := hf x9
              clear hf hex k0 k1
              go_wp2_with fail
              go_returns
              exact ⟨by first | rfl | (simp; done) | (simp; omega), HB.out.trans (F.below.mono s1.out)⟩

namespace fnCountAllBack
open Go.ChangeShapes Go.WideShapes Go.ChangeAt Go.RowKit Go.Deep Go.Joins
set_option linter.unusedVariables false
set_option maxRecDepth 100000 in
theorem lifted (os : Os) (started : os.Started) (H : Type) (enc : TypeId × Value → H) :
    ReturnsInHanded {} Try.checked os 6 .any (Rows.fnCountAllBackSpec.pre6 enc Try.prog Try.f6 Rows.fnCountAllBackRow.domain false) (Rows.fnCountAllBackSpec.post enc Try.prog Try.f6 false true false false) := by
  refine returnsInHanded_of_change (C := Try.checked) own started (by kernel_rfl) Try.func6
    (ChangeSpec.witness6 (enc := enc) (C := Try.checked) false ⟨#[], #[.slice none 0 0], []⟩ 8 (by kernel_rfl) (by kernel_rfl) (by kernel_rfl) (by kernel_rfl)) ?_
  intro W base args ds gs before hval0 hW hcnd _
  have hval : ∀ (j : Nat) t v, Try.f6.params[j]? = some t → args[j]? = some v → Value.okWide Try.prog W .any base t v := hval0
  have hW' := hW
  obtain ⟨p, q, hA0, hV, rfl, hfz, hnd⟩ := hW
  have hA : DataW.TrodAll enc Try.prog W 0 (fun _ => true) true Try.f6.params.toList args.toList ds p := hA0
  rw [Try.params6] at hA hval
  obtain ⟨v0, vs0, d0, ds0, p0, q0, hargs, rfl, rfl, h0, r0⟩ := trodAll_cons hA
  obtain ⟨rfl, rfl, rfl⟩ := trodAll_nil r0
  obtain rfl : args = #[v0] := by cases args; simp_all
  obtain ⟨rfl, rfl⟩ := trodVars_none hV
  have k0 := h0
  have lt0 : ∀ x ∈ p0, x.block < W.heap.size := by obtain ⟨m, hm⟩ := k0; exact DataW.trod_lt m _ _ _ hm
  obtain ⟨A0, c0, bs0, rfl, hb0, hl0⟩ := open_bytes (hval 0 22 v0 rfl rfl) h0
  clear hA0 hval0
  refine (countAllBack_law A0 c0 bs0 W hb0 hl0).mono fun e W' ⟨he, bel⟩ => ?_
  subst he
  exact ⟨_, rfl, _, _, _, [], _, [], hW', trodAll_mk1 (shut_bool Try.underlying4 _), (trodAll_cons_mk (Below.trod laidOut (by kernel_rfl) (of_decide_eq_true (by kernel_rfl)) k0 bel lt0) trodAll_mk0), rfl, bel.frame _, fun h => by cases h⟩

theorem holds : Rows.FnCountAllBackSaid :=
  OpenClaim.holds_of_wide 6 Try.f6 rfl rfl rfl rfl rfl rfl rfl ⟨rfl, rfl, rfl, rfl, rfl⟩ rfl rfl rfl rfl rfl (by kernel_rfl) Try.func6 (by kernel_rfl)
    (of_decide_eq_true (by kernel_rfl)) (by unfold Func.isWrapper; first | (rw [if_pos (by decide +kernel)]; kernel_rfl) | (rw [if_neg (by decide +kernel)]; exact ⟨rfl, rfl⟩))
    (fun os started H enc _ => lifted os started H enc)
end fnCountAllBack
end Go.Proofs.Ytdacfeebidhgnab
