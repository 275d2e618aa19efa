/- Chapter 11 of the program: CountAllBack. -/
import Derived.Test.YtdacfeebidhgnabSpec11f
import Derived.Test.YtdacfeebidhgnabImpl10d
import Derived.Test.YtdacfeebidhgnabSpec5
namespace Go.Proofs.Ytdacfeebidhgnab
open Go.RowKit
set_option maxRecDepth 100000

theorem ArrU.held {w W : World} {base g : Nat} {p : Nat → Nat} (h : ArrU w base g p) (hh : W.heap[g]? = w.heap[g]?) : ArrU W base g p := by
  rcases h.2 with ⟨hv, _⟩ | ⟨g', cap, cur, hv, hb', h2, h3, h4, h5, h6⟩
  · cases hv
  · have hg : g' = g := by injection hv with h1 _ _; injection h1 with h1; injection h1 with h1; exact h1.symm
    subst hg
    exact ⟨h.1, .inr ⟨g', cap, cur, hv, hb', hh.trans h2, h3, h4, h5, h6⟩⟩

theorem ArrU.congr {w : World} {base g : Nat} {p p' : Nat → Nat} (h : ArrU w base g p) (e : ∀ x, x < 7 → p x = p' x) : ArrU w base g p' := by
  have : rowU p 7 = rowU p' 7 := by
    unfold rowU
    exact List.map_congr_left fun x hx => by rw [e x (List.mem_range.1 hx)]
  unfold ArrU at h ⊢
  rwa [this] at h

set_option maxHeartbeats 8000000 in
theorem farther_any (q : Nat → Nat) (hq : ∀ v, q v < 128) (w : World) :
    Calls Try.prog 141 #[.agg (arrUC q)] w fun e w' => e = .returned (.agg (arrUC (warK q 7))) ∧ Below w.heap.size w w' := by
  have HQ := Lib.hid hq
  have A0 := (ArrU.box w (base := w.heap.size) q (Nat.le_refl _)).alloc (.cells (arrUC fun _ => 0) 109)
  have Z0 : ArrU ((w.alloc (.cells (arrUC q) 109)).alloc (.cells (arrUC fun _ => 0) 109)) w.heap.size (w.heap.size + 1) (fun _ => 0) := by
    have := ArrU.box (w.alloc (.cells (arrUC q) 109)) (base := w.heap.size) (fun _ => 0) (by simp)
    rw [World.size_alloc] at this; exact this
  have B0 : Below w.heap.size w ((w.alloc (.cells (arrUC q) 109)).alloc (.cells (arrUC fun _ => 0) 109)) := ((Below.refl _ _).alloc (Nat.le_refl _) _).alloc (by simp) _
  have e0 : arrUC (fun _ => 0) = #[.int .u64 0, .int .u64 0, .int .u64 0, .int .u64 0, .int .u64 0, .int .u64 0, .int .u64 0] := rfl
  rw [e0] at B0 A0 Z0
  clear e0 hq
  unfold arrUC at B0 A0 Z0 ⊢
  go_enter Try.func141, Try.ntmps141
  go_wp2_with fail
  generalize hW : ((w.alloc (.cells #[.int .u64 (q 0 : Nat), .int .u64 (q 1 : Nat), .int .u64 (q 2 : Nat), .int .u64 (q 3 : Nat), .int .u64 (q 4 : Nat), .int .u64 (q 5 : Nat), .int .u64 (q 6 : Nat)] 109)).alloc (.cells #[.int .u64 0, .int .u64 0, .int .u64 0, .int .u64 0, .int .u64 0, .int .u64 0, .int .u64 0] 109)) = W0 at *
  clear hW
  go_loopw [6] (fun t wr => ∃ o : Nat, o ≤ 7 ∧ t = .int .i64 (o : Nat) ∧ ArrU wr w.heap.size w.heap.size (warK q o) ∧ ArrU wr w.heap.size (w.heap.size + 1) (fun _ => 0) ∧ Below w.heap.size w wr) (fun t _ => 7 - (intOf t).toNat)
  case atStart => exact ⟨0, by omega, rfl, A0, Z0, B0⟩
  case round =>
    clear A0 Z0 B0 W0
    obtain ⟨o, ho, rfl, A1, Z1, B1⟩ := hrel
    by_cases hlt : o < 7
    · have HP : Hid (∀ v, warK q o v < 128) := warK_small HQ.out o
      have hnext : Hid (∀ x, x < 7 → warP (warK q o) o 7 x = warK q (o + 1) x) := fun x hx => if_pos hx
      obtain ⟨p, hp⟩ : ∃ p, warK q o = p := ⟨_, rfl⟩
      rw [hp] at A1 HP hnext
      clear hp HQ
      have hix : ∀ f : Nat, f < 7 → ∀ u : World, (Instr.index 109 (.agg #[.int .u64 (p 0 : Nat), .int .u64 (p 1 : Nat), .int .u64 (p 2 : Nat), .int .u64 (p 3 : Nat), .int .u64 (p 4 : Nat), .int .u64 (p 5 : Nat), .int .u64 (p 6 : Nat)]) (.int .i64 (f : Nat))).run Try.prog u = .ok (.int .u64 (p f : Nat)) u := fun f hf u => by
        have : f = 0 ∨ f = 1 ∨ f = 2 ∨ f = 3 ∨ f = 4 ∨ f = 5 ∨ f = 6 := by omega
        rcases this with rfl | rfl | rfl | rfl | rfl | rfl | rfl <;> rfl
      have c0 := A1.cell (show 0 < 7 by omega); have c1 := A1.cell (show 1 < 7 by omega); have c2 := A1.cell (show 2 < 7 by omega); have c3 := A1.cell (show 3 < 7 by omega); have c4 := A1.cell (show 4 < 7 by omega); have c5 := A1.cell (show 5 < 7 by omega); have c6 := A1.cell (show 6 < 7 by omega)
      have h7 : decide ((o : Int) < 7) = true := decide_eq_true (by omega)
      have A2 : ArrU wr w.heap.size w.heap.size (warP p o 0) := by rw [warP_start]; exact A1
      go_wp2_with fail
      go_loopw [10] (fun t wr => ∃ f : Nat, f ≤ 7 ∧ t = .int .i64 (f : Nat) ∧ ArrU wr w.heap.size w.heap.size (warP p o f) ∧ ArrU wr w.heap.size (w.heap.size + 1) (fun _ => 0) ∧ Below w.heap.size w wr) (fun t _ => 7 - (intOf t).toNat)
      case atStart => exact ⟨0, by omega, rfl, A2, Z1, B1⟩
      case round =>
        clear A1 A2 Z1 B1 c0 c1 c2 c3 c4 c5 c6
        obtain ⟨f, hf, rfl, A1, Z1, B1⟩ := hrel
        by_cases hlf : f < 7
        · have hixf := hix f hlf
          have k1 := A1.cell hlf
          have k2 := A1.cell hlt
          have f1 := A1.frozen f
          have hl := A1.lt
          rw [warP_at] at k1
          rw [warP_over] at k2
          have hpf := HP.out f
          have hpo := HP.out o
          have HT : Hid (∀ u, Calls Try.prog 133 #[.int .u64 (p f : Nat), .int .i64 (o : Nat)] u fun e w' => e = .returned (.bool ((p f).testBit o)) ∧ u = w') := fun u => has_any (p f) o u (by omega) (by omega)
          have hor := or_us (x := p f) (y := p o) (by omega) (by omega)
          have HH : Hid ((p f).testBit o = true → upd (warP p o f) f (p f ||| p o) = warP p o (f + 1)) := warP_hit
          have HM : Hid ((p f).testBit o = false → warP p o f = warP p o (f + 1)) := warP_miss
          obtain ⟨bb, hb⟩ : ∃ bb, (p f).testBit o = bb := ⟨_, rfl⟩
          rw [hb] at HT HH HM
          clear hb hix
          obtain ⟨V, hV⟩ : ∃ V, p f ||| p o = V := ⟨_, rfl⟩
          rw [hV] at hor HH
          clear hV
          have i7 : (f : Int) < 7 := by omega
          have i8 : (o : Int) < 7 := by omega
          have HA := Lib.hid A1
          cases bb with
          | false =>
            have HM2 := Lib.hid (HM.out rfl)
            generalize p f = v at *
            generalize p o = x at *
            clear A1
            go_wp2_with fail
            refine (HT.out _).mono ?_
            rintro e1 w1 ⟨rfl, rfl⟩
            go_wp2_with fail
            go_roundw
            case rel => exact ⟨f + 1, by omega, by go_num, by rw [← HM2.out]; exact HA.out, Z1, B1⟩
            case measure => simp [intOf]; omega
          | true =>
            have HH2 := Lib.hid (HH.out rfl)
            generalize p f = v at *
            generalize p o = x at *
            clear A1
            go_wp2_with fail
            refine (HT.out _).mono ?_
            rintro e1 w1 ⟨rfl, rfl⟩
            go_wp2_with fail
            go_region
            go_wp2_with fail
            go_roundw
            case rel => exact ⟨f + 1, by omega, by go_num, by rw [← HH2.out]; exact (HA.out.store f V).drew, (Z1.held (Below.heap_setCell _ _ _ _ (by simp))).drew, (B1.setCell (by simp) _).drew⟩
            case measure => simp [intOf]; omega
        · obtain rfl : f = 7 := by omega
          go_wp2_with fail
          go_roundw
          case rel => exact ⟨o + 1, by omega, by go_num, A1.congr hnext.out, Z1, B1⟩
          case measure => simp [intOf]; omega
    · obtain rfl : o = 7 := by omega
      have c0 := A1.cell (show 0 < 7 by omega); have c1 := A1.cell (show 1 < 7 by omega); have c2 := A1.cell (show 2 < 7 by omega); have c3 := A1.cell (show 3 < 7 by omega); have c4 := A1.cell (show 4 < 7 by omega); have c5 := A1.cell (show 5 < 7 by omega); have c6 := A1.cell (show 6 < 7 by omega)
      have z0 := Z1.cell (show 0 < 7 by omega); have z1 := Z1.cell (show 1 < 7 by omega); have z2 := Z1.cell (show 2 < 7 by omega); have z3 := Z1.cell (show 3 < 7 by omega); have z4 := Z1.cell (show 4 < 7 by omega); have z5 := Z1.cell (show 5 < 7 by omega); have z6 := Z1.cell (show 6 < 7 by omega)
      have f0 := Z1.frozen 0; have f1 := Z1.frozen 1; have f2 := Z1.frozen 2; have f3 := Z1.frozen 3; have f4 := Z1.frozen 4; have f5 := Z1.frozen 5; have f6 := Z1.frozen 6
      go_wp2
      refine bodyPost_ret (v := .agg (arrUC (warK q 7))) (by simp [results, Try.results141, arrUC, go_sem, *]) rfl ?_
      exact ⟨rfl, ((((((B1.setCell (by simp) _).setCell (by simp) _).setCell (by simp) _).setCell (by simp) _).setCell (by simp) _).setCell (by simp) _).setCell (by simp) _⟩


set_option maxHeartbeats 8000000 in
theorem allBackOk_any (n : Int) (s : Nat) (A : Option Addr) (cap : Nat) (es : List (Int × Int)) (w : World) (hes : EdgesIn w w.heap.size A es) (hn : netOkB n es = true) (hs : s < 512) :
    Calls Try.prog 91 #[.agg #[.int .i64 n, .slice A es.length cap], .int .i64 (s : Nat)] w fun e w' => e = .returned (.bool (allBackQ es s)) ∧ Below w.heap.size w w' := by
  have h26 := (netOkB_iff.1 hn).1
  have h9 := (netOkB_iff.1 hn).2.1
  have L0 := ArgNet.start (cap := cap) (n := n) 25 hes
  have HN := Lib.hid hn
  have HA : Hid (∀ u, ArgNet w u n A cap es → Calls Try.prog 139 #[.agg #[.int .i64 n, .slice A es.length cap], .int .i64 (s : Nat)] u fun e w' => Below u.heap.size u w' ∧ ∃ q, e = .returned (.agg (arrUC q)) ∧ SucP (endsL es) (fun i => s.testBit i) es.length q) := fun u h => arrowsOf_any n s A cap es u h.edges hn hs
  have HF : Hid (∀ q u, (∀ v, q v < 128) → Calls Try.prog 141 #[.agg (arrUC q)] u fun e w' => e = .returned (.agg (arrUC (warK q 7))) ∧ Below u.heap.size u w') := fun q u h => farther_any q h u
  have HT : Hid (∀ q, SucP (endsL es) (fun i => s.testBit i) es.length q → (allBackQ es s = true ↔ ∀ (k : Nat) (e : Nat × Nat), (endsL es)[k]? = some e → (warK q 7 e.1).testBit e.2 = true ∧ (warK q 7 e.2).testBit e.1 = true)) := fun q h => by
    unfold allBackQ
    rw [tcB_iff]
    refine tc_rows (n := n.toNat) (by omega) (endsL_ok hn) ?_ fun v u => ?_
    · intro e he
      obtain ⟨f, hf, rfl⟩ := List.mem_map.1 he
      have := (netOkB_iff.1 hn).2.2 f hf
      unfold endN; simp only; omega
    · rw [h.2]
      refine exists_congr fun i => exists_congr fun e => ?_
      constructor
      · exact fun h => h.2
      · exact fun h => ⟨by have := (List.getElem?_eq_some_iff.1 h.1).1; rwa [endsL_length] at this, h⟩
  clear hn
  obtain ⟨_, _, c0, c1, s0⟩ := id L0
  generalize allBackQ es s = V at *
  go_enter Try.func91, Try.ntmps91
  go_wp2_with fail
  refine (HA.out _ L0).mono ?_
  rintro e1 w1 ⟨hb1, q, rfl, hq⟩
  have L1 := L0.on _ hb1
  have hT := HT.out q hq
  have hF := HF.out q
  have hsm : ∀ v, warK q 7 v < 128 := warK_small hq.1 7
  have hq1 := hq.1
  clear c0 c1 s0 L0 HA HF HT hq hb1
  go_wp2_with fail
  refine (hF _ hq1).mono ?_
  rintro e2 w2 ⟨rfl, hb2⟩
  have L2 := L1.on _ hb2
  clear hF hq1 L1 hb2
  obtain ⟨r, hr⟩ : ∃ r, warK q 7 = r := ⟨_, rfl⟩
  rw [hr] at hT hsm ⊢
  have HTT := Lib.hid hT
  have HSM := Lib.hid hsm
  clear hr hT hsm
  have A3 : ArrU (w2.alloc (.cells (arrUC r) 109)) (w.heap.size + 1) w2.heap.size r := ArrU.box w2 r (by have := L2.lt; omega)
  have L3 := L2.on _ ((Below.refl w2.heap.size w2).alloc (Nat.le_refl _) (.cells (arrUC r) 109))
  have gl : w.heap.size < w2.heap.size := L2.lt
  unfold arrUC at A3 L3 ⊢
  obtain ⟨_, _, c0, c1, s0⟩ := id L3
  go_wp2_with fail
  generalize w2.heap.size = g at *
  go_loopw [15] (fun t wr => ∃ k : Nat, k ≤ es.length ∧ t = .int .i64 (k : Nat) ∧ Hid (∀ i, i < k → ∀ e, (endsL es)[i]? = some e → (r e.1).testBit e.2 = true ∧ (r e.2).testBit e.1 = true) ∧ ArrU wr (w.heap.size + 1) g r ∧ ArgNet w wr n A cap es) (fun t _ => es.length - (intOf t).toNat)
  case atStart => exact ⟨0, by omega, rfl, fun i hi => by omega, A3, L3⟩
  case round =>
    clear A3 L3 c0 c1 s0
    obtain ⟨k, hk, rfl, HK, A1, L1⟩ := hrel
    by_cases hlt : k < es.length
    · obtain ⟨a, b, he, hE, ha1, hb1, ha7, hb7, han, hbn⟩ := fits_ends HN.out hlt
      obtain ⟨bl, off, rfl, hbb, g1, g2⟩ := L1.at_ k _ (List.getElem?_eq_getElem hlt)
      rw [he] at g1 g2
      have hll : (endsL es)[k]? = some (a, b) := by
        rw [endsL_at (List.getElem?_eq_getElem hlt), he]; simp [endN]
      have HK2 : Hid ((r a).testBit b = true → (r b).testBit a = true → ∀ i, i < k + 1 → ∀ e, (endsL es)[i]? = some e → (r e.1).testBit e.2 = true ∧ (r e.2).testBit e.1 = true) := fun h1 h2 i hi e hie => by
        by_cases e' : i = k
        · subst e'
          rw [hll] at hie
          obtain rfl := Option.some.inj hie
          exact ⟨h1, h2⟩
        · exact HK.out i (by omega) e hie
      have HNO : Hid (¬ ((r a).testBit b = true ∧ (r b).testBit a = true) → V = false) := fun h => by
        cases hV : V with
        | false => rfl
        | true => exact absurd (HTT.out.1 hV k _ hll) h
      have bx := (Below.refl wr.heap.size wr).alloc (Nat.le_refl _) (.cells #[.int .i64 a, .int .i64 b] 33)
      have L2 := L1.on _ bx
      have A2 := A1.next bx
      have y0 : (wr.alloc (.cells #[.int .i64 a, .int .i64 b] 33)).cell? ⟨wr.heap.size, 0, none⟩ = some (.int .i64 (a : Nat)) := by rw [World.cell?_alloc_at _ _ _ _ rfl]; rfl
      have y1 : (wr.alloc (.cells #[.int .i64 a, .int .i64 b] 33)).cell? ⟨wr.heap.size, 1, none⟩ = some (.int .i64 (b : Nat)) := by rw [World.cell?_alloc_at _ _ _ _ rfl]; rfl
      have k1 := A2.cell ha7
      have k2 := A2.cell hb7
      have i7 : (a : Int) < 7 := by omega
      have i8 : (b : Int) < 7 := by omega
      have HT1 : Hid (∀ u, Calls Try.prog 133 #[.int .u64 (r a : Nat), .int .i64 (b : Nat)] u fun e w' => e = .returned (.bool ((r a).testBit b)) ∧ u = w') := fun u => has_any (r a) b u (by have := HSM.out a; omega) (by omega)
      have HT2 : Hid (∀ u, Calls Try.prog 133 #[.int .u64 (r b : Nat), .int .i64 (a : Nat)] u fun e w' => e = .returned (.bool ((r b).testBit a)) ∧ u = w') := fun u => has_any (r b) a u (by have := HSM.out b; omega) (by omega)
      obtain ⟨v1, hv1⟩ : ∃ v, (r a).testBit b = v := ⟨_, rfl⟩
      obtain ⟨v2, hv2⟩ : ∃ v, (r b).testBit a = v := ⟨_, rfl⟩
      rw [hv1] at HT1 HK2 HNO
      rw [hv2] at HT2 HK2 HNO
      obtain ⟨_, _, c0, c1, s0⟩ := id L1
      clear hv1 hv2 hE he hll han hbn HK A1 bx
      generalize r a = x1 at *
      generalize r b = x2 at *
      obtain ⟨W2, hW2⟩ : ∃ W, W = wr.alloc (.cells #[.int .i64 a, .int .i64 b] 33) := ⟨_, rfl⟩
      cases v1 with
      | false =>
        have HV := Lib.hid (HNO.out (by simp))
        clear HNO HK2
        go_wp2_with fail
        rw [← hW2] at L2 A2 y0 y1 k1 k2 ⊢
        clear hW2 L1 c0 c1 s0
        go_quiet (first | (go_at_call 133; with_reducible exact quiet_same (HT1.out _)) | (go_at_call 133; with_reducible exact quiet_same (HT2.out _)))
        go_wp2_with fail
        go_returns
        exact ⟨retB HV.out.symm, (L2.on _ (belowN (Below.refl _ _) _)).below⟩
      | true =>
        cases v2 with
        | false =>
          have HV := Lib.hid (HNO.out (by simp))
          clear HNO HK2
          go_wp2_with fail
          rw [← hW2] at L2 A2 y0 y1 k1 k2 ⊢
          clear hW2 L1 c0 c1 s0
          go_quiet (first | (go_at_call 133; with_reducible exact quiet_same (HT1.out _)) | (go_at_call 133; with_reducible exact quiet_same (HT2.out _)))
          go_wp2_with fail
          go_returns
          exact ⟨retB HV.out.symm, (L2.on _ (belowN (Below.refl _ _) _)).below⟩
        | true =>
          have HK3 := Lib.hid (HK2.out rfl rfl)
          clear HNO HK2
          go_wp2_with fail
          rw [← hW2] at L2 A2 y0 y1 k1 k2 ⊢
          clear hW2 L1 c0 c1 s0
          go_quiet (first | (go_at_call 133; with_reducible exact quiet_same (HT1.out _)) | (go_at_call 133; with_reducible exact quiet_same (HT2.out _)))
          go_wp2_with fail
          go_roundw
          case rel => exact ⟨k + 1, by omega, by go_num, HK3, A2.drewN _, L2.on _ (belowN (Below.refl _ _) _)⟩
          case measure => simp [intOf]; omega
    · obtain rfl : k = es.length := by omega
      have HV : Hid (V = true) := HTT.out.2 fun k e hke => HK.out k (by have := (List.getElem?_eq_some_iff.1 hke).1; rwa [endsL_length] at this) e hke
      clear HK HTT
      obtain ⟨_, _, c0, c1, s0⟩ := id L1
      go_wp2_with fail
      go_returns
      exact ⟨retB HV.out.symm, L1.below⟩

theorem allBackFn_any (n : Int) (s : Nat) (A : Option Addr) (cap : Nat) (es : List (Int × Int)) (w u : World) (_hl : es.length ≤ 1048576) (hs : stateOkB n es s = true) (L : ArgNet w u n A cap es) :
    Calls Try.prog 90 #[.int .i64 s, .pointer (some ⟨w.heap.size, 0, none⟩)] u fun e w' => e = .returned (.bool (allBackQ es s)) ∧ Below u.heap.size u w' := by
  obtain ⟨m, hm1, -, hm3⟩ := state_nat hs
  obtain rfl : s = m := by omega
  have HC := Lib.hid (allBackOk_any n s A cap es u L.edges (stateOkB_net hs) hm3)
  obtain ⟨_, _, c0, c1, s0⟩ := id L
  generalize allBackQ es s = v at *
  clear hs
  go_enter Try.func90, Try.ntmps90
  go_wp2_with fail
  refine HC.out.mono ?_
  rintro e1 w1 ⟨rfl, hb1⟩
  go_wp2_with fail
  go_returns
  exact ⟨by first | rfl | simp, hb1⟩

set_option maxHeartbeats 4000000 in
theorem countAllBack_any (n : Int) (A : Option Addr) (cap : Nat) (es : List (Int × Int)) (w : World) (hes : EdgesIn w w.heap.size A es) (hl : es.length ≤ 1048576) :
    Calls Try.prog 28 #[.agg #[.int .i64 n, .slice A es.length cap]] w fun e w' => e = .returned (.int .i64 (allBackI n es)) ∧ Below w.heap.size w w' := by
  have hmf : ∀ (fn : Fn) (first cap : Array Value) (w : World), (Instr.makeFunc fn first cap).run Try.prog w = .ok (.func fn first cap) w := fun _ _ _ _ => rfl
  have L0 := ArgNet.start (cap := cap) (n := n) 25 hes
  have HN : Hid (∀ u, ArgNet w u n A cap es → Calls Try.prog 31 #[.agg #[.int .i64 n, .slice A es.length cap]] u fun e w' => e = .returned (.bool (netOkB n es)) ∧ Below u.heap.size u w') := fun u h => netOk_any n A cap es u h.edges hl
  obtain ⟨_, _, c0, c1, s0⟩ := id L0
  cases hn : netOkB n es with
  | false =>
    have HV : Hid (allBackI n es = -1) := if_neg (by rw [hn]; simp)
    rw [HV.out]
    rw [hn] at HN
    clear hes hn
    go_enter Try.func28, Try.ntmps28
    go_wp2_with fail
    refine (HN.out _ L0).mono ?_
    rintro e1 w1 ⟨rfl, hb1⟩
    have L1 := L0.step hb1 L0.lt
    go_wp2_with fail
    go_returns
    exact ⟨by first | rfl | simp, L1.below⟩
  | true =>
    have h9 := (netOkB_iff.1 hn).2.1
    have HV : Hid (allBackI n es = (cP (allBackQ es) (2 ^ es.length) : Nat)) := if_pos hn
    have HSUM : Hid (∀ u, ArgNet w u n A cap es → Calls Try.prog 87 #[.agg #[.int .i64 n, .slice A es.length cap], .func (.func 90) #[] #[.pointer (some ⟨w.heap.size, 0, none⟩)]] u fun e w' => e = .returned (.int .i64 (cP (allBackQ es) (2 ^ es.length) : Nat)) ∧ Below u.heap.size u w') := fun u h =>
      countArrows_any n _ 90 #[.pointer (some ⟨w.heap.size, 0, none⟩)] (allBackQ es) A cap es u h.edges h9 rfl (fun _ _ => rfl) (fun v hv k hk => allBackFn_any n k A cap es w v hl (state_of hn hk) (h.on _ hv))
    rw [HV.out]
    rw [hn] at HN
    generalize cP (allBackQ es) (2 ^ es.length) = z at *
    clear hes hn HV
    go_enter Try.func28, Try.ntmps28
    go_wp2_with fail
    refine (HN.out _ L0).mono ?_
    rintro e1 w1 ⟨rfl, hb1⟩
    have L1 := L0.step hb1 L0.lt
    clear c0 c1 s0
    obtain ⟨_, _, c0, c1, s0⟩ := id L1
    go_wp2_with fail
    refine (HSUM.out _ L1).mono ?_
    rintro e3 w3 ⟨rfl, hb3⟩
    have L3 := L1.step hb3 L1.lt
    go_wp2_with fail
    go_returns
    exact ⟨by first | rfl | simp, L3.below⟩
end Go.Proofs.Ytdacfeebidhgnab
