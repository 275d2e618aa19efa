/- The law FnPathFamily holds of every code: cuts block paths; there are as many states as counts together. -/
import Derived.Test.YtmdmmebekicpkaaBytes
import Derived.Test.YtmdmmebekicpkaaPathFam
import Derived.Test.YtmdmmebekicpkaaImpl8f
import Derived.Test.YtmdmmebekicpkaaFamR
import Derived.Test.YtmdmmebekicpkaaObj
import Derived.Deep.RegionHeld3
import Derived.Deep.DeepCutAuto
namespace Go.Proofs.Ytmdmmebekicpkaa
open Go.RowKit
set_option maxRecDepth 100000

theorem sumN_upto (f : Nat → Nat) {k m : Nat} (h : k ≤ m) : sumN f k ≤ sumN f m := by
  induction m with
  | zero => obtain rfl : k = 0 := by omega
            exact Nat.le_refl _
  | succ m ih =>
    by_cases hk : k = m + 1
    · subst hk; exact Nat.le_refl _
    · have := ih (by omega); simp only [sumN]; omega
/-- What the law asks, of values. -/
theorem pf_facts {n : Int} {es : List (Int × Int)} {a b : Int} (h : pfOk n es a b = true) :
    ∃ (xs cs ls : List Int) (J : Nat → Nat) (S : Nat → Nat) (nA : Nat), pfT n es a b = (es.length : Nat) ∧ pfL n es a b = xs ∧ xs.length ≤ 64 ∧ famOkB (es.length : Nat) xs = true ∧ blT (es.length : Nat) xs = (es.length : Nat) ∧ blL (es.length : Nat) xs = cs ∧ cs.length ≤ 512 ∧
      natI (cutsN n es a b) = cs ∧ famCountI (es.length : Nat) xs = (nA : Nat) ∧ joiningL n es a b = ls ∧ ls.length = es.length + 1 ∧ (∀ k, k < es.length + 1 → ls.getD k 0 = (J k : Nat)) ∧ S 0 = 0 ∧ (∀ k, S (k + 1) = S k + J k) ∧ S (es.length + 1) = nA ∧ (∀ k, k ≤ es.length + 1 → S k ≤ 64) ∧ es.length ≤ 6 := by
  have h' := h
  unfold pfOk at h'
  rw [Bool.and_eq_true, decide_eq_true_eq] at h'
  obtain ⟨hjo, h6⟩ := h'
  have hn := path_ok hjo
  have hp := pow_64 h6
  have hok : famOkB (es.length : Nat) (natI (pathsN n es a b)) = true := famOk_of h6 hn
  have l1 := hn.len
  have hc := famN_le es.length (pathsN n es a b)
  have hcnt := path_count hjo
  refine ⟨natI (pathsN n es a b), natI (cutsN n es a b), joiningL n es a b, fun k => joinC es a.toNat b.toNat k, sumN (fun k => joinC es a.toNat b.toNat k), famN es.length (pathsN n es a b),
    by unfold pfT; rw [if_pos h], by unfold pfL; rw [if_pos h], by rw [natI_length]; omega, hok, by unfold blT; rw [if_pos hok], ?_, natCuts_len n es a b, rfl, countI_of h6 hn, rfl, ?_, ?_, rfl, fun _ => rfl, hcnt.symm, ?_, h6⟩
  · rw [blL_of h6 hn, path_block hjo]
  · unfold joiningL; rw [if_pos hjo, rowL_length]
  · intro k hk; unfold joiningL; rw [if_pos hjo, rowL_getD _ hk]
  · intro k hk
    have := sumN_upto (fun k => joinC es a.toNat b.toNat k) hk
    omega

set_option maxHeartbeats 8000000 in
theorem pathFamily_law (A : Option Addr) (cap l : Nat) (w : World) (hb : BytesIn w w.heap.size A l) (hc : l ≤ cap) :
    Calls Try.prog 11 #[.slice A l cap] w fun e w' => e = .returned (.bool true) ∧ Below w.heap.size w w' := by
  by_cases hbig : 1048576 < l
  · go_enter Try.func11, Try.ntmps11
    go_wp2
    go_returns
    exact ⟨rfl, Below.refl _ _⟩
  have hl : l ≤ 1048576 := by omega
  clear hbig
  have HC : Hid (∀ (u : World) (t : Int) (A : Option Addr) (c m : Nat) (xs : List Int) (v : Int), famCountI t xs = v → xs.length = m → m ≤ 65 → IntsIn u u.heap.size A xs → Calls Try.prog 26 #[.agg #[.int .i64 t, .slice A m c]] u fun e w' => e = .returned (.int .i64 v) ∧ Below u.heap.size u w') := fun u t A c m xs v hv hm hl hi => by
    subst hv hm; exact countIn_any t A c xs u hi (by omega)
  have HO : Hid (∀ (u : World) (t : Int) (A : Option Addr) (c m : Nat) (xs : List Int) (v : Bool), famOkB t xs = v → xs.length = m → m ≤ 65 → IntsIn u u.heap.size A xs → Calls Try.prog 22 #[.agg #[.int .i64 t, .slice A m c]] u fun e w' => e = .returned (.bool v) ∧ Below u.heap.size u w') := fun u t A c m xs v hv hm hl hi => by
    subst hv hm; exact familyOk_any t A c xs u hi (by omega)
  have HBL : Hid (∀ (u : World) (t : Int) (A : Option Addr) (c m : Nat) (xs : List Int) (z : Int) (r : Nat) (ys : List Int) (v : Bool), blT t xs = z → blL t xs = ys → ys.length = r → famOkB t xs = v → xs.length = m → m ≤ 65 → IntsIn u u.heap.size A xs → Calls Try.prog 30 #[.agg #[.int .i64 t, .slice A m c]] u (GotM u z r ys v)) := fun u t A c m xs z r ys v hz hy hr hv hm hl hi => by
    subst hz hy hv hm
    exact (blocker_any t A c xs u hi (by omega)).mono fun _ _ k => k.m hr
  have HJ : Hid (∀ (u : World) (t : Int) (A B : Option Addr) (c d m : Nat) (xs : List Int), xs.length = m → m ≤ 65 → IntsIn u u.heap.size A xs → IntsIn u u.heap.size B xs → Calls Try.prog 18 #[.agg #[.int .i64 t, .slice A m c], .agg #[.int .i64 t, .slice B m d]] u fun e w' => e = .returned (.bool true) ∧ Below u.heap.size u w') := fun u t A B c d m xs hm hl h1 h2 => sameFamily_self t A B c d m xs u h1 h2 hm (by omega)
  go_enter Try.func11, Try.ntmps11
  go_wp2_with fail
  refine (drawPathFamily_any _ _ _ _ hb hl hc).mono ?_
  rintro e1 w1 ⟨n, A1, c, es, a, b, rfl, hes, n1, n7, hle, hb1⟩
  have L1 := ArgNet.start (cap := c) (n := n) 53 hes
  have HB := Lib.hid hb1
  have s1 := hb1.size
  clear hb1 hb hl hc hes
  have HP : Hid (∀ (z : Int) (r : Nat) (ys : List Int) (v : Bool), pfT n es a b = z → pfL n es a b = ys → ys.length = r → pfOk n es a b = v → ∀ u, ArgNet w1 u n A1 c es → Calls Try.prog 42 #[.agg #[.int .i64 n, .slice A1 es.length c], .int .i64 a, .int .i64 b] u (GotM u z r ys v)) := fun z r ys v hz hy hr hv u h => by
    subst hz hy hv
    exact (pathFamily_any n a b A1 c es u h.edges (by omega)).mono fun _ _ k => k.m hr
  have HS : Hid (∀ (z : Int) (r : Nat) (ys : List Int) (v : Bool), pfT n es a b = z → pfL n es a b = ys → ys.length = r → pfOk n es a b = v → ∀ u, ArgNet w1 u n A1 c es → Calls Try.prog 40 #[.agg #[.int .i64 n, .slice A1 es.length c], .int .i64 a, .int .i64 b] u (GotM u z r ys v)) := fun z r ys v hz hy hr hv u h => by
    subst hz hy hv
    exact (specPathFamily_any n a b A1 c es u h.edges (by omega)).mono fun _ _ k => k.m hr
  have HJC : Hid (∀ (ls : List Int), joiningL n es a b = ls → ∀ u, ArgNet w1 u n A1 c es → Calls Try.prog 46 #[.agg #[.int .i64 n, .slice A1 es.length c], .int .i64 a, .int .i64 b] u (GotInts u ls)) := fun ls hls u h => by
    subst hls
    exact joiningCounts_any n a b A1 c es u h.edges (by omega)
  have HCU : Hid (∀ (cs : List Int) (q : Nat), natI (cutsN n es a b) = cs → cs.length = q → ∀ u, ArgNet w1 u n A1 c es → Calls Try.prog 48 #[.agg #[.int .i64 n, .slice A1 es.length c], .int .i64 a, .int .i64 b] u fun e w' => ∃ A c, e = .returned (.slice A q c) ∧ OwnI w' u.heap.size (.slice A q c) cs ∧ Below u.heap.size u w') := fun cs q hcs hq u h => by
    subst hcs hq
    exact cutsOf_any n a b A1 c es u h.edges (by omega)
  cases hok : pfOk n es a b with
  | false =>
    have hw := pf_wrong hok
    have HK := Lib.hid hok
    have HT := Lib.hid hw.1
    have HL := Lib.hid hw.2
    clear hok hw HC HO HBL HJC HCU
    obtain ⟨_, _, c0, c1, s0⟩ := id L1
    go_wp2_with fail
    refine (HP.out 0 0 [] false HT.out HL.out rfl HK.out _ L1).mono ?_
    rintro e2 w2 ⟨A2, c2, rfl, own2, hb2⟩
    have L2 := L1.on _ hb2
    clear L1 hb2 c0 c1 s0
    have hbx := (Below.refl w2.heap.size w2).alloc (Nat.le_refl _) (.cells #[.int .i64 0, .slice A2 0 c2] 27)
    have X2 := FamRd.start (t := 0) (m := 0) (c := c2) 27 own2.ints
    have L2b := L2.on _ hbx
    obtain ⟨W2, hW2⟩ : ∃ W, W = w2.alloc (.cells #[.int .i64 0, .slice A2 0 c2] 27) := ⟨_, rfl⟩
    obtain ⟨_, _, c0, c1, s0⟩ := id L2
    go_upto_region 5 with (fail)
    rw [← hW2] at X2 L2b ⊢
    clear hW2 hbx own2 c0 c1 s0 L2 
    generalize w2.heap.size = bf at *
    obtain ⟨_, _, c0, c1, s0⟩ := id L2b
    have c0X := X2.c0
    have c1X := X2.c1
    have ltX := X2.lt
    go_wp2_with fail
    refine (HS.out 0 0 [] false HT.out HL.out rfl HK.out _ L2b).mono ?_
    rintro e3 w3 ⟨A3, c3, rfl, own3, hb3⟩
    have L3 := L2b.on _ hb3
    have X3 := X2.next hb3
    clear c0 c1 s0 c0X c1X ltX
    clear L2b X2 hb3
    have hbx := (Below.refl w3.heap.size w3).alloc (Nat.le_refl _) (.cells #[.int .i64 0, .slice A3 0 c3] 27)
    have Y3 := FamRd.start (t := 0) (m := 0) (c := c3) 27 own3.ints
    have L3b := L3.on _ hbx
    have X3b := X3.next hbx
    obtain ⟨W3, hW3⟩ : ∃ W, W = w3.alloc (.cells #[.int .i64 0, .slice A3 0 c3] 27) := ⟨_, rfl⟩
    obtain ⟨_, _, c0, c1, s0⟩ := id L3
    have c0X := X3.c0
    have c1X := X3.c1
    have ltX := X3.lt
    go_upto_region 6 with (fail)
    rw [← hW3] at Y3 L3b X3b ⊢
    clear hW3 hbx own3 c0 c1 s0 L3 X3 c0X c1X ltX
    generalize w3.heap.size = bx at *
    obtain ⟨_, _, c0, c1, s0⟩ := id L3b
    have c0X := X3b.c0
    have c1X := X3b.c1
    have ltX := X3b.lt
    have c0Y := Y3.c0
    have c1Y := Y3.c1
    have ltY := Y3.lt
    go_wp2_with fail
    refine (HJ.out _ _ _ _ _ _ 0 [] rfl (by omega) X3b.ints Y3.ints).mono ?_
    rintro e4 w4 ⟨rfl, hb4⟩
    have L4 := L3b.on _ hb4
    have X4 := X3b.next hb4
    clear c0 c1 s0 c0X c1X ltX c0Y c1Y ltY
    clear L3b X3b Y3 hb4
    obtain ⟨_, _, c0, c1, s0⟩ := id L4
    have c0X := X4.c0
    have c1X := X4.c1
    have ltX := X4.lt
    go_wp2_with fail
    refine (HJ.out _ _ _ _ _ _ 0 [] rfl (by omega) IntsIn.nil IntsIn.nil).mono ?_
    rintro e5 w5 ⟨rfl, hb5⟩
    have L5 := L4.on _ hb5
    clear c0 c1 s0 c0X c1X ltX
    go_wp2_with fail
    refine (alive_any _).mono ?_
    rintro e6 w6 ⟨rfl, hb6⟩
    have L6 := L5.on _ hb6
    go_wp2_with fail
    go_returns
    exact ⟨by first | rfl | simp, HB.out.trans (L6.below.mono s1)⟩
  | true =>
    obtain ⟨xs, cs, ls, J, S, nA, q1, q2, q3, q4, q5, q6, q7, q8, q9, q10, q11, q12, q13, q14, q15, q16, h6⟩ := pf_facts hok
    have HK := Lib.hid hok
    have HT := Lib.hid q1
    have HL := Lib.hid q2
    have HFO := Lib.hid q4
    have HBT := Lib.hid q5
    have HBLs := Lib.hid q6
    have HCS := Lib.hid q8
    have HCO := Lib.hid q9
    have HLS := Lib.hid q10
    have HG := Lib.hid q12
    have HN := Lib.hid q14
    have HS64 := Lib.hid q16
    have HLL := Lib.hid q11
    obtain ⟨r, hr⟩ : ∃ r, xs.length = r := ⟨_, rfl⟩
    obtain ⟨q, hq⟩ : ∃ q, cs.length = q := ⟨_, rfl⟩
    rw [hr] at q3
    rw [hq] at q7
    have HR := Lib.hid hr
    have HQ := Lib.hid hq
    clear hok q1 q2 q4 q5 q6 q8 q9 q10 q11 q12 q14 q16 hr hq
    obtain ⟨_, _, c0, c1, s0⟩ := id L1
    go_wp2_with fail
    refine (HP.out (es.length : Nat) r xs true HT.out HL.out HR.out HK.out _ L1).mono ?_
    rintro e2 w2 ⟨A2, c2, rfl, own2, hb2⟩
    have L2 := L1.on _ hb2
    clear L1 hb2 c0 c1 s0
    have hbx := (Below.refl w2.heap.size w2).alloc (Nat.le_refl _) (.cells #[.int .i64 (es.length : Nat), .slice A2 r c2] 27)
    have X2 := FamRd.start (t := (es.length : Nat)) (m := r) (c := c2) 27 own2.ints
    have L2b := L2.on _ hbx
    obtain ⟨W2, hW2⟩ : ∃ W, W = w2.alloc (.cells #[.int .i64 (es.length : Nat), .slice A2 r c2] 27) := ⟨_, rfl⟩
    obtain ⟨_, _, c0, c1, s0⟩ := id L2
    go_upto_region 5 with (fail)
    rw [← hW2] at X2 L2b ⊢
    clear hW2 hbx own2 c0 c1 s0 L2 
    generalize w2.heap.size = bf at *
    obtain ⟨_, _, c0, c1, s0⟩ := id L2b
    have c0X := X2.c0
    have c1X := X2.c1
    have ltX := X2.lt
    go_wp2_with fail
    refine (HS.out (es.length : Nat) r xs true HT.out HL.out HR.out HK.out _ L2b).mono ?_
    rintro e3 w3 ⟨A3, c3, rfl, own3, hb3⟩
    have L3 := L2b.on _ hb3
    have X3 := X2.next hb3
    clear c0 c1 s0 c0X c1X ltX
    clear L2b X2 hb3
    have hbx := (Below.refl w3.heap.size w3).alloc (Nat.le_refl _) (.cells #[.int .i64 (es.length : Nat), .slice A3 r c3] 27)
    have Y3 := FamRd.start (t := (es.length : Nat)) (m := r) (c := c3) 27 own3.ints
    have L3b := L3.on _ hbx
    have X3b := X3.next hbx
    obtain ⟨W3, hW3⟩ : ∃ W, W = w3.alloc (.cells #[.int .i64 (es.length : Nat), .slice A3 r c3] 27) := ⟨_, rfl⟩
    obtain ⟨_, _, c0, c1, s0⟩ := id L3
    have c0X := X3.c0
    have c1X := X3.c1
    have ltX := X3.lt
    go_upto_region 6 with (fail)
    rw [← hW3] at Y3 L3b X3b ⊢
    clear hW3 hbx own3 c0 c1 s0 L3 X3 c0X c1X ltX
    generalize w3.heap.size = bx at *
    obtain ⟨_, _, c0, c1, s0⟩ := id L3b
    have c0X := X3b.c0
    have c1X := X3b.c1
    have ltX := X3b.lt
    have c0Y := Y3.c0
    have c1Y := Y3.c1
    have ltY := Y3.lt
    go_wp2_with fail
    refine (HJ.out _ _ _ _ _ _ r xs HR.out (by omega) X3b.ints Y3.ints).mono ?_
    rintro e4 w4 ⟨rfl, hb4⟩
    have L4 := L3b.on _ hb4
    have X4 := X3b.next hb4
    clear c0 c1 s0 c0X c1X ltX c0Y c1Y ltY
    clear L3b X3b Y3 hb4
    clear HP HS HJ HK HT HL
    obtain ⟨_, _, c0, c1, s0⟩ := id L4
    have c0X := X4.c0
    have c1X := X4.c1
    have ltX := X4.lt
    go_wp2_with fail
    refine (HBL.out _ _ _ _ r xs _ q cs true HBT.out HBLs.out HQ.out HFO.out HR.out (by omega) X4.ints).mono ?_
    rintro e5 w5 ⟨A5, c5, rfl, own5, hb5⟩
    have L5 := L4.on _ hb5
    have X5 := X4.next hb5
    clear c0 c1 s0 c0X c1X ltX
    clear L4 X4 hb5 HBL HBT HBLs
    have hbx := (Below.refl w5.heap.size w5).alloc (Nat.le_refl _) (.cells #[.int .i64 (es.length : Nat), .slice A5 q c5] 27)
    have Z5 := FamRd.start (t := (es.length : Nat)) (m := q) (c := c5) 27 own5.ints
    have L5b := L5.on _ hbx
    have X5b := X5.next hbx
    obtain ⟨W5, hW5⟩ : ∃ W, W = w5.alloc (.cells #[.int .i64 (es.length : Nat), .slice A5 q c5] 27) := ⟨_, rfl⟩
    obtain ⟨_, _, c0, c1, s0⟩ := id L5
    have c0X := X5.c0
    have c1X := X5.c1
    have ltX := X5.lt
    go_upto_region 11 with (fail)
    rw [← hW5] at Z5 L5b X5b ⊢
    clear hW5 hbx own5 c0 c1 s0 L5 X5 c0X c1X ltX
    generalize w5.heap.size = bc at *
    obtain ⟨_, _, c0, c1, s0⟩ := id L5b
    have c0X := X5b.c0
    have c1X := X5b.c1
    have ltX := X5b.lt
    have c0Z := Z5.c0
    have c1Z := Z5.c1
    have ltZ := Z5.lt
    go_wp2_with fail
    refine (HJC.out ls HLS.out _ L5b).mono ?_
    intro e6 w6 h6r
    obtain ⟨g, c6, rfl, own6, hb6⟩ := h6r.row HLL.out
    have L6 := L5b.on _ hb6
    have X6 := X5b.next hb6
    have Z6 := Z5.next hb6
    have G6 := RowAt.start own6
    clear c0 c1 s0 c0X c1X ltX c0Z c1Z ltZ
    clear L5b X5b Z5 hb6 own6 HJC HLS HLL
    generalize W5.heap.size = lo at *
    generalize hhi : w6.heap.size = hi at *
    clear hhi
    go_wp2_with fail
    go_loopw [12, 14] (fun s k wr => ∃ K : Nat, K ≤ es.length + 1 ∧ k = .int .i64 (K : Nat) ∧ s = .int .i64 (S K : Nat) ∧ ArgNet w1 wr n A1 c es ∧ FamRd wr bf (es.length : Nat) A2 r c2 xs ∧ FamRd wr bc (es.length : Nat) A5 q c5 cs ∧ RowAt wr lo hi (.slice (some ⟨g, 0, none⟩) (es.length + 1) c6) ls) (fun _ k _ => es.length + 1 - (intOf k).toNat)
    case atStart => exact ⟨0, by omega, rfl, by rw [q13]; rfl, L6, X6, Z6, G6⟩
    case round =>
      clear L6 X6 Z6 G6
      obtain ⟨K, hK, rfl, rfl, L, X, Z, G⟩ := hrel
      by_cases hlt : K < es.length + 1
      · have x1 := G.cell hlt
        rw [HG.out K hlt] at x1
        have hs1 := HS64.out (K + 1) (by omega)
        have HSK := Lib.hid (HN.out K)
        rw [HN.out K] at hs1
        have iK : (K : Int) < (es.length : Int) + 1 := by omega
        have wK : IntKind.i64.wrap ((K : Int) + 1) = ((K + 1 : Nat) : Int) := by rw [IntWalk.i64_in _ (by omega)]; omega
        generalize S K = s at *
        generalize J K = x at *
        have ws : IntKind.i64.wrap ((s : Int) + (x : Int)) = ((s + x : Nat) : Int) := by rw [IntWalk.i64_in _ (by omega)]; omega
        go_wp2_with fail
        go_roundw
        case rel => exact ⟨K + 1, by omega, by first | rfl | go_num, by rw [HSK.out]; try simp, L, X, Z, G⟩
        case measure => first | go_num | (rw [wK]; simp [intOf]; omega) | (simp [intOf]; omega) | (simp only [intOf]; omega) | (trace_state; omega)
      · obtain rfl : K = es.length + 1 := by omega
        rw [q15]
        have iK : ¬ ((es.length : Int) + 1 < (es.length : Int) + 1) := by omega
        clear G
        obtain ⟨_, _, c0, c1, s0⟩ := id L
        have c0X := X.c0
        have c1X := X.c1
        have ltX := X.lt
        have c0Z := Z.c0
        have c1Z := Z.c1
        have ltZ := Z.lt
        go_upto_region 17 with (fail)
        have L_D := L.drew
        have X_D := X.drew
        have Z_D := Z.drew
        clear c0 c1 s0 c0X c1X ltX c0Z c1Z ltZ
        clear L X Z
        obtain ⟨_, _, c0, c1, s0⟩ := id L_D
        have c0X := X_D.c0
        have c1X := X_D.c1
        have c0Z := Z_D.c0
        have c1Z := Z_D.c1
        go_wp2_with fail
        go_region_held3 (fun w' => w'.cell? ⟨w1.heap.size, 0, none⟩ = some (.int .i64 n) ∧ w'.cell? ⟨w1.heap.size, 1, none⟩ = some (.slice A1 es.length c) ∧ w'.cell? ⟨bf, 0, none⟩ = some (.int .i64 (es.length : Nat)) ∧ w'.cell? ⟨bf, 1, none⟩ = some (.slice A2 r c2) ∧ w'.cell? ⟨bc, 0, none⟩ = some (.int .i64 (es.length : Nat)) ∧ w'.cell? ⟨bc, 1, none⟩ = some (.slice A5 q c5)) (first | go_keep) (first | (go_simp; go_at_call 22; (with_reducible refine (HO.out _ _ _ _ r xs true HFO.out HR.out (by omega) X_D.ints).mono ?_); rintro ea wa ⟨rfl, hba⟩; have L_A := L_D.on _ hba; have X_A := X_D.next hba; have Z_A := Z_D.next hba; have y0A := L_A.c0; have y1A := L_A.c1; have y2A := X_A.c0; have y3A := X_A.c1; have y4A := Z_A.c0; have y5A := Z_A.c1) | (go_simp; go_at_call 48; (with_reducible refine (HCU.out cs q HCS.out HQ.out _ L_A).mono ?_); rintro ec wc ⟨Ac, cc, rfl, ownc, hbc⟩; have L_C := L_A.on _ hbc; have X_C := X_A.next hbc; have Z_C := Z_A.next hbc; have y0C := L_C.c0; have y1C := L_C.c1; have y2C := X_C.c0; have y3C := X_C.c1; have y4C := Z_C.c0; have y5C := Z_C.c1) | (go_simp; go_at_call 47; (with_reducible refine (sameInts_self _ _ _ _ q cs _ Z_C.ints ownc.ints HQ.out (by omega)).mono ?_); rintro es_ ws_ ⟨rfl, hbs⟩; have L_S := L_C.on _ hbs; have X_S := X_C.next hbs; have Z_S := Z_C.next hbs; have y0S := L_S.c0; have y1S := L_S.c1; have y2S := X_S.c0; have y3S := X_S.c1; have y4S := Z_S.c0; have y5S := Z_S.c1) | (go_simp; go_at_call 26; (with_reducible refine (HC.out _ _ _ _ r xs _ HCO.out HR.out (by omega) X_S.ints).mono ?_); rintro en wn ⟨rfl, hbn⟩; have L_N := L_S.on _ hbn; have X_N := X_S.next hbn; have Z_N := Z_S.next hbn; have y0N := L_N.c0; have y1N := L_N.c1; have y2N := X_N.c0; have y3N := X_N.c1; have y4N := Z_N.c0; have y5N := Z_N.c1))
        go_wp2_with fail
        go_returns
        exact ⟨by first | rfl | simp, HB.out.trans (L_N.below.mono s1)⟩

namespace fnPathFamily
open Go.ChangeShapes Go.WideShapes Go.ChangeAt Go.RowKit Go.Deep Go.Joins
set_option linter.unusedVariables false
set_option maxRecDepth 100000 in
theorem lifted (os : Os) (started : os.Started) (H : Type) (enc : TypeId × Value → H) :
    ReturnsInHanded {} Try.checked os 11 .any (Rows.fnPathFamilySpec.pre6 enc Try.prog Try.f11 Rows.fnPathFamilyRow.domain false) (Rows.fnPathFamilySpec.post enc Try.prog Try.f11 false true false false) := by
  refine returnsInHanded_of_change (C := Try.checked) own started (by kernel_rfl) Try.func11
    (ChangeSpec.witness6 (enc := enc) (C := Try.checked) false ⟨#[], #[.slice none 0 0], []⟩ 8 (by kernel_rfl) (by kernel_rfl) (by kernel_rfl) (by kernel_rfl)) ?_
  intro W base args ds gs before hval0 hW hcnd _
  have hval : ∀ (j : Nat) t v, Try.f11.params[j]? = some t → args[j]? = some v → Value.okWide Try.prog W .any base t v := hval0
  have hW' := hW
  obtain ⟨p, q, hA0, hV, rfl, hfz, hnd⟩ := hW
  have hA : DataW.TrodAll enc Try.prog W 0 (fun _ => true) true Try.f11.params.toList args.toList ds p := hA0
  rw [Try.params11] at hA hval
  obtain ⟨v0, vs0, d0, ds0, p0, q0, hargs, rfl, rfl, h0, r0⟩ := trodAll_cons hA
  obtain ⟨rfl, rfl, rfl⟩ := trodAll_nil r0
  obtain rfl : args = #[v0] := by cases args; simp_all
  obtain ⟨rfl, rfl⟩ := trodVars_none hV
  have k0 := h0
  have lt0 : ∀ x ∈ p0, x.block < W.heap.size := by obtain ⟨m, hm⟩ := k0; exact DataW.trod_lt m _ _ _ hm
  obtain ⟨A0, c0, bs0, rfl, hb0, hl0⟩ := open_bytes (hval 0 22 v0 rfl rfl) h0
  clear hA0 hval0
  refine (pathFamily_law A0 c0 bs0 W hb0 hl0).mono fun e W' ⟨he, bel⟩ => ?_
  subst he
  exact ⟨_, rfl, _, _, _, [], _, [], hW', trodAll_mk1 (shut_bool Try.underlying4 _), (trodAll_cons_mk (Below.trod laidOut (by kernel_rfl) (of_decide_eq_true (by kernel_rfl)) k0 bel lt0) trodAll_mk0), rfl, bel.frame _, fun h => by cases h⟩

theorem holds : Rows.FnPathFamilySaid :=
  OpenClaim.holds_of_wide 11 Try.f11 rfl rfl rfl rfl rfl rfl rfl ⟨rfl, rfl, rfl, rfl, rfl⟩ rfl rfl rfl rfl rfl (by kernel_rfl) Try.func11 (by kernel_rfl)
    (of_decide_eq_true (by kernel_rfl)) (by unfold Func.isWrapper; first | (rw [if_pos (by decide +kernel)]; kernel_rfl) | (rw [if_neg (by decide +kernel)]; exact ⟨rfl, rfl⟩))
    (fun os started H enc _ => lifted os started H enc)
end fnPathFamily
end Go.Proofs.Ytmdmmebekicpkaa
