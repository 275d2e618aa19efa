/- The law FnWholeCounts holds of every code: for each edge of a net of 3 nodes or more the counts are those without it, and one edge later those of the net with both ends made one, each edge that is left out then there or not. -/
import Derived.Test.YtfflfinhhdhnkaaBytes
import Derived.Test.YtfflfinhhdhnkaaDrawT
import Derived.Test.YtfflfinhhdhnkaaImplCnt
import Derived.Test.YtfflfinhhdhnkaaWithout
import Derived.Test.YtfflfinhhdhnkaaChoose
import Derived.Test.YtfflfinhhdhnkaaSplit
import Derived.Test.YtfflfinhhdhnkaaObj
namespace Go.Proofs.Ytfflfinhhdhnkaa
open Go.RowKit
set_option maxRecDepth 100000

/-- A row of n numbers, not none of them, was given back. -/
def GotLen (w : World) (n : Nat) (xs : List Int) (e : Ending) (w' : World) : Prop :=
  ∃ g c, e = .returned (.slice (some ⟨g, 0, none⟩) n c) ∧ OwnI w' w.heap.size (.slice (some ⟨g, 0, none⟩) n c) xs ∧ Below w.heap.size w w'
theorem GotInts.len {w w' : World} {xs : List Int} {n : Nat} {e : Ending} (hl : xs.length = n) (h1 : 1 ≤ n) (h : GotInts w xs e w') : GotLen w n xs e w' := by
  obtain ⟨A, c, rfl, own, hb⟩ := h
  rcases own.form with ⟨_, h0⟩ | ⟨g, c', hv, _, _⟩
  · subst h0; simp at hl; omega
  · injection hv with hA _ hc
    subst hA hc
    rw [hl] at own ⊢
    exact ⟨g, c, rfl, own, hb⟩

set_option maxHeartbeats 8000000 in
theorem wholeCounts_law (A : Option Addr) (cap l : Nat) (w : World) (hb : BytesIn w w.heap.size A l) (hc : l ≤ cap) :
    Calls Try.prog 4 #[.slice A l cap] w fun e w' => e = .returned (.bool true) ∧ Below w.heap.size w w' := by
  by_cases hbig : 1048576 < l
  · go_enter Try.func4, Try.ntmps4
    go_wp2
    go_returns
    exact ⟨rfl, Below.refl _ _⟩
  · have hl : l ≤ 1048576 := by omega
    clear hbig
    go_enter Try.func4, Try.ntmps4
    go_wp2_with fail
    refine (drawWholeCounts_any _ _ _ _ hb hl hc).mono ?_
    rintro e1 w1 ⟨n, A1, c, es, rfl, own, n1, n7, hle, hb1⟩
    have L1 := ArgNet.start (cap := c) (n := n) 25 own.edges
    have hcap := own.cap
    have HB := Lib.hid hb1
    have hle' : es.length ≤ 1048576 := by omega
    have s1 := hb1.size
    clear own hb hb1
    by_cases hn : netOkB n es = true
    · have hlW : (wholeL n es).length = es.length + 1 := by unfold wholeL; rw [if_pos hn, rowL_length]
      have hW : ∀ k, k < es.length + 1 → (wholeL n es).getD k 0 = (wholeC n es k : Nat) := fun k hk => by unfold wholeL; rw [if_pos hn, rowL_getD _ hk]
      have hI : ∀ u, EdgesIn u u.heap.size A1 es → Calls Try.prog 17 #[.agg #[.int .i64 n, .slice A1 es.length c]] u (GotLen u (es.length + 1) (wholeL n es)) := fun u h => (wholeCounts_any n A1 c es u h hle').mono fun _ _ => GotInts.len hlW (by omega)
      have hS : ∀ u, EdgesIn u u.heap.size A1 es → Calls Try.prog 18 #[.agg #[.int .i64 n, .slice A1 es.length c]] u (GotLen u (es.length + 1) (wholeL n es)) := fun u h => (specWholeCounts_any n A1 c es u h hle').mono fun _ _ => GotInts.len hlW (by omega)
      have h9 := (netOkB_iff.1 hn).2.1
      generalize wholeL n es = fs at *
      have HLF := Lib.hid hlW
      have HI := Lib.hid hI
      have HS := Lib.hid hS
      have HWv := Lib.hid hW
      have HNET := Lib.hid hn
      clear hlW hI hS hW hn
      go_wp2_with fail
      refine (HI.out _ L1.edges).mono ?_
      rintro e2 w2 ⟨g2, c2, rfl, own2, hb2⟩
      have L2 := L1.step hb2 L1.lt
      have F2 := RowAt.start (OwnI.more own2 (show w1.heap.size ≤ _ by simp))
      clear hb2 own2 L1
      have c0 := L2.c0
      have c1 := L2.c1
      go_wp2_with fail
      refine (HS.out _ L2.edges).mono ?_
      rintro e3 w3 ⟨g3, c3, rfl, own3, hb3⟩
      have L3 := L2.step hb3 L2.lt
      have F3 := F2.next hb3
      clear hb3 L2 F2 c0 c1
      go_wp2_with fail
      refine (sameInts_self _ _ _ _ _ _ _ F3.ints own3.ints HLF.out (by omega)).mono ?_
      rintro e4 w4 ⟨rfl, hb4⟩
      have L4 := L3.step hb4 L3.lt
      have F4 := F3.next hb4
      clear hb4 L3 F3 own3
      generalize w2.heap.size = b2' at *
      go_wp2_with fail
      go_loopw [5] (fun t wr => ∃ at_ : Nat, at_ ≤ es.length ∧ t = .int .i64 (at_ : Nat) ∧ ArgNet w1 wr n A1 c es ∧ RowAt wr w1.heap.size b2' (.slice (some ⟨g2, 0, none⟩) (es.length + 1) c2) fs) (fun t _ => es.length - (intOf t).toNat)
      case atStart => exact ⟨0, by omega, rfl, L4, F4⟩
      case round =>
        clear L4 F4
        obtain ⟨at_, hat, rfl, L, F⟩ := hrel
        have c0 := L.c0
        have c1 := L.c1
        have lw := L.lt
        have hw1 : IntKind.i64.wrap ((es.length : Int) + 1) = (es.length : Int) + 1 := IntWalk.i64_in _ (by omega)
        by_cases hlt : at_ < es.length
        · have dl : decide ((at_ : Int) < (es.length : Int)) = true := by simp; omega
          have dl' : decide (at_ < es.length) = true := by simp; omega
          by_cases h3 : 3 ≤ n
          · have d3 : decide (3 ≤ n) = true := by simpa using h3
            obtain ⟨le, je, c00, f1, f2, f3, f4, f5, f6, f7, hnl, hll, hnj, hlj, hsp⟩ := split_facts HNET.out h3 hlt
            have hL : ∀ u, EdgesIn u u.heap.size A1 es → Calls Try.prog 20 #[.agg #[.int .i64 n, .slice A1 es.length c], .int .i64 at_] u (MadeNetB u n le true) := fun u h => by
              have := withoutEdge_any n at_ A1 c es u h hle' hcap
              rw [f1, f2, f3] at this; exact this
            have hM : ∀ u, EdgesIn u u.heap.size A1 es → Calls Try.prog 21 #[.agg #[.int .i64 n, .slice A1 es.length c], .int .i64 at_] u (GotMade u (n - 1) je (c00 : Nat) true) := fun u h => by
              have := madeOne_any n at_ A1 c es u h hle'
              rw [f4, f5, f6, f7] at this; exact this
            have hra : ∀ k, k < es.length → (wholeL n le).getD k 0 = (wholeC n le k : Nat) := fun k hk => by unfold wholeL; rw [if_pos hnl, rowL_getD _ (by omega)]
            have hWl : ∀ (A : Option Addr) (c : Nat) (u : World), EdgesIn u u.heap.size A le → Calls Try.prog 17 #[.agg #[.int .i64 n, .slice A le.length c]] u (GotLen u es.length (wholeL n le)) := fun A c u h =>
              (wholeCounts_any n A c le u h (by omega)).mono fun _ _ => GotInts.len (by unfold wholeL; rw [if_pos hnl, rowL_length]; omega) (by omega)
            obtain ⟨s0, hs0⟩ : ∃ s0, je.length + 1 = s0 := ⟨_, rfl⟩
            have hWj : ∀ (A : Option Addr) (c : Nat) (u : World), EdgesIn u u.heap.size A je → Calls Try.prog 17 #[.agg #[.int .i64 (n - 1), .slice A je.length c]] u (GotLen u s0 (rowTw (wholeC (n - 1) je) s0 0)) := fun A c u h => by
              have e : wholeL (n - 1) je = rowTw (wholeC (n - 1) je) s0 0 := by
                unfold wholeL rowTw
                rw [if_pos hnj, hs0]
                exact rowL_congr fun k _ => rfl
              rw [← e]
              exact (wholeCounts_any (n - 1) A c je u h (by omega)).mono fun _ _ => GotInts.len (by unfold wholeL; rw [if_pos hnj, rowL_length, hs0]) (by omega)
            have q0 : ∀ k, s0 ≤ k → wholeC (n - 1) je k = 0 := fun k hk => wholeC_more (by omega)
            have qM : ∀ k, wholeC (n - 1) je k ≤ 1048576 := fun k => wholeC_max (by omega) k
            have hB : ∀ j, j < c00 → ∀ (g c g' : Nat) (u : World), IntsIn u u.heap.size (some ⟨g, 0, none⟩) (rowTw (wholeC (n - 1) je) s0 j) → IntsIn u u.heap.size (some ⟨g', 0, none⟩) [1, 1] →
                Calls Try.prog 22 #[.slice (some ⟨g, 0, none⟩) (s0 + j) c, .slice (some ⟨g', 0, none⟩) 2 2] u (GotLen u (s0 + (j + 1)) (rowTw (wholeC (n - 1) je) s0 (j + 1))) := fun j hj g c g' u h1 h2 => by
              have := bothOf_any (some ⟨g, 0, none⟩) (some ⟨g', 0, none⟩) c 2 (rowTw (wholeC (n - 1) je) s0 j) [1, 1] u h1 h2 (by rw [rowTw_length]; omega) (by simp)
              rw [rowTw_length, rowTw_step q0 qM (by omega) (by omega)] at this
              exact this.mono fun _ _ => GotInts.len (rowTw_length _ _ _) (by omega)
            have hv : ∀ k : Nat, wholeC n es k = wholeC n le k + later (twN c00 (wholeC (n - 1) je)) k := hsp
            have hvM : ∀ k, wholeC n es k ≤ 1048576 := fun k => wholeC_max (by omega) k
            have hvm : wholeC n le es.length = 0 := wholeC_more (by omega)
            have hrb : ∀ k, k < s0 + c00 → (rowTw (wholeC (n - 1) je) s0 c00).getD k 0 = (twN c00 (wholeC (n - 1) je) k : Nat) := fun k hk => rowTw_get _ hk
            have hsc : s0 + c00 = es.length := by omega
            have hc8 : c00 ≤ 8 := by omega
            have hlel : le.length ≤ 9 := by omega
            have hjel : je.length ≤ 9 := by omega
            generalize wholeL n le = ra at *
            generalize hqq : wholeC (n - 1) je = qb at *
            have HL := Lib.hid hL
            have HM := Lib.hid hM
            have HWl := Lib.hid hWl
            have HWj := Lib.hid hWj
            have HBo := Lib.hid hB
            have HV := Lib.hid hv
            have HVM := Lib.hid hvM
            have HVm := Lib.hid hvm
            have HRa := Lib.hid hra
            have HRb := Lib.hid hrb
            have HSC := Lib.hid hsc
            clear hL hM hWl hWj hB hv hvM hvm hra hrb hsc f1 f2 f3 f4 f5 f6 f7 hnl hll hnj hlj hsp hs0 q0 qM hqq
            go_wp2_with fail
            refine (HL.out _ L.edges).mono ?_
            rintro e5 w5 ⟨A5, k5, rfl, own5, hb5⟩
            have L5 := L.step hb5 L.lt
            have F5 := F.next hb5
            clear hb5 L F c0 c1 lw
            have X6 := NetAt.start (n := n) 25 own5
            have hbx := (Below.refl w5.heap.size w5).alloc (Nat.le_refl _) (.cells #[.int .i64 n, .slice A5 le.length k5] 25)
            have L6 := L5.step hbx L5.lt
            have F6 := F5.next hbx
            have c0 := L5.c0
            have c1 := L5.c1
            have lw := L5.lt
            clear hbx F5 own5
            obtain ⟨W6, hW6⟩ : ∃ W6, W6 = w5.alloc (.cells #[.int .i64 n, .slice A5 le.length k5] 25) := ⟨_, rfl⟩
            go_wp2_with fail
            rw [← hW6] at X6 L6 F6 ⊢
            clear hW6 c0 c1 lw L5
            refine (HM.out _ L6.edges).mono ?_
            rintro e7 w7 ⟨A7, k7, rfl, own7, hb7⟩
            have L7 := L6.step hb7 L6.lt
            have F7 := F6.next hb7
            have X7 := X6.step hb7 X6.lt
            clear hb7 L6 F6 X6
            have Y8 := NetAt.start (n := n - 1) 25 own7
            have hbx := (Below.refl w7.heap.size w7).alloc (Nat.le_refl _) (.cells #[.int .i64 (n - 1), .slice A7 je.length k7] 25)
            have L8 := L7.step hbx L7.lt
            have F8 := F7.next hbx
            have X8 := X7.step hbx X7.lt
            have x0 := X7.c0
            have x1 := X7.c1
            have lx := X7.lt
            clear hbx F7 own7
            obtain ⟨W8, hW8⟩ : ∃ W8, W8 = w7.alloc (.cells #[.int .i64 (n - 1), .slice A7 je.length k7] 25) := ⟨_, rfl⟩
            go_wp2_with fail
            rw [← hW8] at Y8 L8 F8 X8 ⊢
            clear hW8 x0 x1 lx L7 X7
            refine (HWl.out _ _ _ X8.edges).mono ?_
            rintro e9 w9 ⟨g9, k9, rfl, own9, hb9⟩
            have L9 := L8.step hb9 L8.lt
            have F9 := F8.next hb9
            have Y9 := Y8.step hb9 Y8.lt
            have R9 := RowAt.start own9
            clear hb9 L8 F8 Y8 X8 own9
            have y0 := Y9.c0
            have y1 := Y9.c1
            go_wp2_with fail
            refine (HWj.out _ _ _ Y9.edges).mono ?_
            rintro e10 w10 ⟨g10, k10, rfl, own10, hb10⟩
            have L10 := L9.step hb10 L9.lt
            have F10 := F9.next hb10
            have R10 := R9.next hb10
            have B10 := RowAt.start own10
            clear hb10 L9 F9 Y9 R9 own10 y0 y1
            generalize w9.heap.size = b9 at *
            go_wp2_with fail
            go_loopw [12, 13] (fun v t wr => ∃ j g k lo hi : Nat, j ≤ c00 ∧ t = .int .i64 (j : Nat) ∧ v = .slice (some ⟨g, 0, none⟩) (s0 + j) k ∧ ArgNet w1 wr n A1 c es ∧ RowAt wr w1.heap.size b2' (.slice (some ⟨g2, 0, none⟩) (es.length + 1) c2) fs ∧
              RowAt wr W8.heap.size b9 (.slice (some ⟨g9, 0, none⟩) es.length k9) ra ∧ RowAt wr lo hi (.slice (some ⟨g, 0, none⟩) (s0 + j) k) (rowTw qb s0 j)) (fun _ t _ => c00 - (intOf t).toNat)
            case atStart => exact ⟨0, g10, k10, _, _, by omega, rfl, rfl, L10, F10, R10, B10⟩
            case round =>
              clear L10 F10 R10 B10
              obtain ⟨j, gj, kj, lo, hi, hj, rfl, rfl, L, F, R, B⟩ := hrel
              by_cases hjl : j < c00
              · have dj : decide ((j : Int) < (c00 : Int)) = true := by simp; omega
                have dj' : decide (j < c00) = true := by simp; omega
                have dj9 : decide ((j : Int) < 9) = true := by simp; omega
                have own2 := OwnI.two wr (base := wr.heap.size) 1 1 (Nat.le_refl _)
                have hbx := (Below.refl wr.heap.size wr).alloc (Nat.le_refl _) (.cells #[.int .i64 1, .int .i64 1] 3)
                have L2 := L.step hbx L.lt
                have F2 := F.next hbx
                have R2 := R.next hbx
                have B2 := B.next hbx
                clear hbx L F R B
                go_wp2_with fail
                refine (HBo.out j hjl _ _ _ _ B2.ints own2.ints).mono ?_
                rintro e11 w11 ⟨g11, k11, rfl, own11, hb11⟩
                have L3 := L2.step hb11 L2.lt
                have F3 := F2.next hb11
                have R3 := R2.next hb11
                have B3 := RowAt.start own11
                clear hb11 L2 F2 R2 B2 own2 own11
                go_wp2_with fail
                go_roundw
                case rel => exact ⟨j + 1, g11, k11, _, _, by omega, by go_num, rfl, L3, F3, R3, B3⟩
                case measure => simp [intOf]; omega
              · obtain rfl : j = c00 := by omega
                rw [HSC.out] at B ⊢
                have dj : decide ((j : Int) < (j : Int)) = false := by simp
                have hw2 : IntKind.i64.wrap ((es.length : Int) + 1 - 1) = (es.length : Int) := by rw [IntWalk.i64_in _ (by omega)]; omega
                go_wp2_with fail
                go_loopw [14] (fun t wr => ∃ k : Nat, k ≤ es.length + 1 ∧ t = .int .i64 (k : Nat) ∧ ArgNet w1 wr n A1 c es ∧ RowAt wr w1.heap.size b2' (.slice (some ⟨g2, 0, none⟩) (es.length + 1) c2) fs ∧
                  RowAt wr W8.heap.size b9 (.slice (some ⟨g9, 0, none⟩) es.length k9) ra ∧ RowAt wr lo hi (.slice (some ⟨gj, 0, none⟩) es.length kj) (rowTw qb s0 j)) (fun t _ => es.length + 1 - (intOf t).toNat)
                case atStart => exact ⟨0, by omega, rfl, L, F, R, B⟩
                case round =>
                  clear L F R B
                  obtain ⟨k, hk, rfl, L, F, R, B⟩ := hrel
                  by_cases hkl : k < es.length + 1
                  · have x1 := F.cell hkl
                    rw [HWv.out k hkl] at x1
                    have hv := HV.out k
                    have hvM := HVM.out k
                    rcases Nat.eq_zero_or_pos k with hk0 | hk0
                    · have x2 := R.cell (show k < es.length by omega)
                      rw [HRa.out k (by omega)] at x2
                      have hv : wholeC n es k = wholeC n le k := by rw [hv, later, if_pos hk0]; omega
                      rw [hv] at x1 hvM
                      generalize wholeC n le k = z at *
                      have wz : IntKind.i64.wrap (0 + (z : Int)) = (z : Int) := by rw [Int.zero_add]; exact IntWalk.i64_in _ (by omega)
                      have wz2 : IntKind.i64.wrap (z : Int) = (z : Int) := IntWalk.i64_in _ (by omega)
                      have dk : decide ((k : Int) < (es.length : Int)) = true := by simp; omega
                      have dk' : decide (k < es.length) = true := by simp; omega
                      have dk0 : decide ((0 : Int) < (k : Int)) = false := by simp; omega
                      have dk0' : decide (0 < k) = false := by simp; omega
                      have hke : k < es.length := by omega
                      clear hk0 hv
                      go_wp2_with fail
                      go_roundw
                      case rel => exact ⟨k + 1, by omega, by go_num, L, F, R, B⟩
                      case measure => simp [intOf]; omega
                    · have hv : wholeC n es k = wholeC n le k + twN j qb (k - 1) := by rw [hv, later, if_neg (by omega)]
                      have x3 := B.cell (show k - 1 < es.length by omega)
                      rw [HRb.out (k - 1) (by rw [HSC.out]; omega)] at x3
                      have wk : IntKind.i64.wrap ((k : Int) - 1) = ((k - 1 : Nat) : Int) := by rw [IntWalk.i64_in _ (by omega)]; omega
                      have ik : ((k - 1 : Nat) : Int) < (es.length : Int) := by omega
                      have ik0 : (0 : Int) ≤ ((k - 1 : Nat) : Int) := by omega
                      have dk0 : decide ((0 : Int) < (k : Int)) = true := by simp; omega
                      have dk0' : decide (0 < k) = true := by simp; omega
                      by_cases hke : k < es.length
                      · have x2 := R.cell hke
                        rw [HRa.out k hke] at x2
                        rw [hv] at x1 hvM
                        generalize wholeC n le k = z at *
                        generalize twN j qb (k - 1) = y at *
                        have wz : IntKind.i64.wrap (0 + (z : Int)) = (z : Int) := by rw [Int.zero_add]; exact IntWalk.i64_in _ (by omega)
                        have wz2 : IntKind.i64.wrap (z : Int) = (z : Int) := IntWalk.i64_in _ (by omega)
                        have wzy : IntKind.i64.wrap ((z : Int) + (y : Int)) = ((z + y : Nat) : Int) := by rw [IntWalk.i64_in _ (by omega)]; omega
                        have dk : decide ((k : Int) < (es.length : Int)) = true := by simp; omega
                        have dk' : decide (k < es.length) = true := by simp; omega
                        clear hv
                        generalize hk1 : k - 1 = k1 at *
                        clear hk1
                        go_wp2_with fail
                        go_roundw
                        case rel => exact ⟨k + 1, by omega, by go_num, L, F, R, B⟩
                        case measure => simp [intOf]; omega
                      · have hkm : k = es.length := by omega
                        have hz : wholeC n le k = 0 := by rw [hkm]; exact HVm.out
                        rw [hv, hz, Nat.zero_add] at x1 hvM
                        generalize twN j qb (k - 1) = y at *
                        have wz : IntKind.i64.wrap (0 + (y : Int)) = (y : Int) := by rw [Int.zero_add]; exact IntWalk.i64_in _ (by omega)
                        have wz2 : IntKind.i64.wrap (y : Int) = (y : Int) := IntWalk.i64_in _ (by omega)
                        have dk : decide ((k : Int) < (es.length : Int)) = false := by simp; omega
                        have dk' : decide (k < es.length) = false := by simp; omega
                        clear hv hz hkm
                        generalize hk1 : k - 1 = k1 at *
                        clear hk1
                        go_wp2_with fail
                        go_roundw
                        case rel => exact ⟨k + 1, by omega, by go_num, L, F, R, B⟩
                        case measure => simp [intOf]; omega
                  · obtain rfl : k = es.length + 1 := by omega
                    go_wp2_with fail
                    go_roundw
                    case rel =>
                      exact ⟨_, _, _, _, _, _, _, _, _, _, _, _, _, _, _, _, _, _, _, _, _, _, _, _, _, _, _, _, _, _, _, _, _, _, _, _, _, _, _, _, _, _, _, _, _, _, _, _, _, _, _, _, _, _, _, _, _, _, _, _, _, _, _, _, _, _, _, _, _, _, _, _, _, _, _, _, _, _, _, _, _, _, _, _, _, _, _, _, _, _, _, _, _, _, _, _, _, _, _, _, _, _, _, _, ⟨at_ + 1, by omega, by go_num, L, F⟩, rfl⟩
                    case measure => simp [intOf]; omega
          · have d3 : decide (3 ≤ n) = false := by simp; omega
            go_wp2_with fail
            go_returns
            exact ⟨rfl, HB.out.trans (L.below.mono s1)⟩
        · have dl : decide ((at_ : Int) < (es.length : Int)) = false := by simp; omega
          have dl' : decide (at_ < es.length) = false := by simp; omega
          go_wp2_with fail
          go_returns
          exact ⟨rfl, HB.out.trans (L.below.mono s1)⟩
    · have hI : ∀ u, EdgesIn u u.heap.size A1 es → Calls Try.prog 17 #[.agg #[.int .i64 n, .slice A1 es.length c]] u (GotInts u []) := fun u h => by
        have := wholeCounts_any n A1 c es u h hle'
        unfold wholeL at this; rw [if_neg hn] at this; exact this
      have hS : ∀ u, EdgesIn u u.heap.size A1 es → Calls Try.prog 18 #[.agg #[.int .i64 n, .slice A1 es.length c]] u (GotInts u []) := fun u h => by
        have := specWholeCounts_any n A1 c es u h hle'
        unfold wholeL at this; rw [if_neg hn] at this; exact this
      have HI := Lib.hid hI
      have HS := Lib.hid hS
      have HN : Hid (netOkB n es = false) := by simpa [Hid] using hn
      clear hI hS hn
      go_wp2_with fail
      refine (HI.out _ L1.edges).mono ?_
      rintro e2 w2 ⟨g2, c2, rfl, own2, hb2⟩
      have L2 := L1.step hb2 L1.lt
      have F2 := RowAt.start own2
      clear hb2 own2 L1
      have c0 := L2.c0
      have c1 := L2.c1
      go_wp2_with fail
      refine (HS.out _ L2.edges).mono ?_
      rintro e3 w3 ⟨g3, c3, rfl, own3, hb3⟩
      have L3 := L2.step hb3 L2.lt
      have F3 := F2.next hb3
      clear hb3 L2 F2 c0 c1
      go_wp2_with fail
      refine (sameInts_self _ _ _ _ _ _ _ F3.ints own3.ints rfl (by simp)).mono ?_
      rintro e4 w4 ⟨rfl, hb4⟩
      have L4 := L3.step hb4 L3.lt
      clear hb4 L3 F3 own3
      have c0 := L4.c0
      have c1 := L4.c1
      go_wp2_with fail
      refine (netOk_any _ _ _ _ _ L4.edges hle').mono ?_
      rintro e5 w5 ⟨rfl, hb5⟩
      rw [HN.out]
      have L5 := L4.step hb5 L4.lt
      go_wp2_with fail
      refine (alive_any _).mono ?_
      rintro e6 w6 ⟨rfl, hb6⟩
      have L6 := L5.step hb6 L5.lt
      go_wp2_with fail
      go_returns
      exact ⟨rfl, HB.out.trans (L6.below.mono s1)⟩

namespace fnWholeCounts
open Go.ChangeShapes Go.WideShapes Go.ChangeAt Go.RowKit Go.Deep Go.Joins
set_option linter.unusedVariables false
set_option maxRecDepth 100000 in
theorem lifted (os : Os) (started : os.Started) (H : Type) (enc : TypeId × Value → H) :
    ReturnsInHanded {} Try.checked os 4 .any (Rows.fnWholeCountsSpec.pre6 enc Try.prog Try.f4 Rows.fnWholeCountsRow.domain false) (Rows.fnWholeCountsSpec.post enc Try.prog Try.f4 false true false false) := by
  refine returnsInHanded_of_change (C := Try.checked) own started (by kernel_rfl) Try.func4
    (ChangeSpec.witness6 (enc := enc) (C := Try.checked) false ⟨#[], #[.slice none 0 0], []⟩ 8 (by kernel_rfl) (by kernel_rfl) (by kernel_rfl) (by kernel_rfl)) ?_
  intro W base args ds gs before hval0 hW hcnd _
  have hval : ∀ (j : Nat) t v, Try.f4.params[j]? = some t → args[j]? = some v → Value.okWide Try.prog W .any base t v := hval0
  have hW' := hW
  obtain ⟨p, q, hA0, hV, rfl, hfz, hnd⟩ := hW
  have hA : DataW.TrodAll enc Try.prog W 0 (fun _ => true) true Try.f4.params.toList args.toList ds p := hA0
  rw [Try.params4] at hA hval
  obtain ⟨v0, vs0, d0, ds0, p0, q0, hargs, rfl, rfl, h0, r0⟩ := trodAll_cons hA
  obtain ⟨rfl, rfl, rfl⟩ := trodAll_nil r0
  obtain rfl : args = #[v0] := by cases args; simp_all
  obtain ⟨rfl, rfl⟩ := trodVars_none hV
  have k0 := h0
  have lt0 : ∀ x ∈ p0, x.block < W.heap.size := by obtain ⟨m, hm⟩ := k0; exact DataW.trod_lt m _ _ _ hm
  obtain ⟨A0, c0, bs0, rfl, hb0, hl0⟩ := open_bytes (hval 0 22 v0 rfl rfl) h0
  clear hA0 hval0
  refine (wholeCounts_law A0 c0 bs0 W hb0 hl0).mono fun e W' ⟨he, bel⟩ => ?_
  subst he
  exact ⟨_, rfl, _, _, _, [], _, [], hW', trodAll_mk1 (shut_bool Try.underlying4 _), (trodAll_cons_mk (Below.trod laidOut (by kernel_rfl) (of_decide_eq_true (by kernel_rfl)) k0 bel lt0) trodAll_mk0), rfl, bel.frame _, fun h => by cases h⟩

theorem holds : Rows.FnWholeCountsSaid :=
  OpenClaim.holds_of_wide 4 Try.f4 rfl rfl rfl rfl rfl rfl rfl ⟨rfl, rfl, rfl, rfl, rfl⟩ rfl rfl rfl rfl rfl (by kernel_rfl) Try.func4 (by kernel_rfl)
    (of_decide_eq_true (by kernel_rfl)) (by unfold Func.isWrapper; first | (rw [if_pos (by decide +kernel)]; kernel_rfl) | (rw [if_neg (by decide +kernel)]; exact ⟨rfl, rfl⟩))
    (fun os started H enc _ => lifted os started H enc)
end fnWholeCounts

end Go.Proofs.Ytfflfinhhdhnkaa
