/- piecesOf of the program, and the functions that call it: PiecesIn, JoinedOk, WholeOk, RankOf, RingFreeOk. -/
import Derived.Test.YtdacfeebidhgnaaArr
import Derived.Test.YtdacfeebidhgnaaEdgesAt
namespace Go.Proofs.Ytdacfeebidhgnaa
open Go.RowKit
set_option maxRecDepth 100000

def endsOf (es : List (Int × Int)) (i : Nat) : Nat × Nat := match es[i]? with
  | some e => (e.1.toNat, e.2.toNat)
  | none => (0, 0)
def bits (s : Int) (i : Nat) : Bool := s.toNat.testBit i
theorem endsOf_get {es : List (Int × Int)} {i : Nat} (h : i < es.length) : endsOf es i = (es[i].1.toNat, es[i].2.toNat) := by simp [endsOf, h]
theorem endsOf_ok {n : Int} {es : List (Int × Int)} (h : netOkB n es = true) : EndsOk (endsOf es) es.length n.toNat := by
  intro i hi
  have h1 := netOkB_iff.1 h
  have h2 := h1.2.2 es[i] (List.getElem_mem hi)
  rw [endsOf_get hi]
  simp only
  omega
/-- How many pieces there are; which node stands for one. -/
def piecesB (n : Int) (es : List (Int × Int)) (s : Int) : Nat := pcs (endsOf es) (bits s) es.length n.toNat

theorem has_any (s k : Nat) (w : World) (hs : s < 512) (hk : k < 9) :
    Calls Try.prog 128 #[.int .u64 s, .int .i64 k] w fun e w' => e = .returned (.bool (s.testBit k)) ∧ w = w' := by
  go_enter Try.func128, Try.ntmps128
  go_wp2
  go_returns
  refine ⟨retB ?_, rfl⟩
  clear w
  revert s
  revert k
  decide +kernel

theorem fits_ends {n : Int} {es : List (Int × Int)} (h : netOkB n es = true) {k : Nat} (hk : k < es.length) :
    ∃ a b : Nat, es[k] = ((a : Int), (b : Int)) ∧ endsOf es k = (a, b) ∧ 1 ≤ a ∧ 1 ≤ b ∧ a < 7 ∧ b < 7 ∧ a ≤ n.toNat ∧ b ≤ n.toNat := by
  have h1 := netOkB_iff.1 h
  have h2 := h1.2.2 es[k] (List.getElem_mem hk)
  refine ⟨es[k].1.toNat, es[k].2.toNat, ?_, endsOf_get hk, by omega, by omega, by omega, by omega, by omega, by omega⟩
  apply Prod.ext <;> simp only <;> omega

set_option maxRecDepth 100000 in
set_option maxHeartbeats 4000000 in
theorem piecesOf_any (n s : Int) (A : Option Addr) (cap : Nat) (es : List (Int × Int)) (w : World) (hes : EdgesIn w w.heap.size A es) (hn : netOkB n es = true) (h0 : 0 ≤ s) (hs : s < 512) :
    Calls Try.prog 90 #[.agg #[.int .i64 n, .slice A es.length cap], .int .i64 s] w fun e w' => Below w.heap.size w w' ∧ ∃ q R d, e = .returned (.agg (arrC q)) ∧ Forest q R d ∧ Rep (endsOf es) (bits s) es.length n.toNat R := by
  have h9 := (netOkB_iff.1 hn).2.1
  have HN := Lib.hid hn
  obtain ⟨m, rfl⟩ : ∃ m : Nat, s = m := ⟨s.toNat, by omega⟩
  clear hn
  go_enter Try.func90, Try.ntmps90
  go_wp2
  have B0 : Below w.heap.size w (((w.alloc (.cells #[.int .i64 n, .slice A es.length cap] 29)).alloc (.cells (arrC fun _ => 0) 81)).alloc (.cells (arrC fun _ => 0) 81)) := by go_grown
  have L0 : ArgNet w (((w.alloc (.cells #[.int .i64 n, .slice A es.length cap] 29)).alloc (.cells (arrC fun _ => 0) 81)).alloc (.cells (arrC fun _ => 0) 81)) n A cap es :=
    ((ArgNet.start 29 hes).step ((Below.refl (w.heap.size + 1) _).alloc (by simp) _) (by omega)).step ((Below.refl (w.heap.size + 1) _).alloc (by simp) _) (by omega)
  have A0 : Arr (((w.alloc (.cells #[.int .i64 n, .slice A es.length cap] 29)).alloc (.cells (arrC fun _ => 0) 81)).alloc (.cells (arrC fun _ => 0) 81)) w.heap.size (w.heap.size + 2) (fun _ => 0) := by
    simpa using Arr.box ((w.alloc (.cells #[.int .i64 n, .slice A es.length cap] 29)).alloc (.cells (arrC fun _ => 0) 81)) (base := w.heap.size) (fun _ => 0) (by simp; omega)
  have Z0 : Arr (((w.alloc (.cells #[.int .i64 n, .slice A es.length cap] 29)).alloc (.cells (arrC fun _ => 0) 81)).alloc (.cells (arrC fun _ => 0) 81)) w.heap.size (w.heap.size + 1) (fun _ => 0) := by
    have := Arr.box (w.alloc (.cells #[.int .i64 n, .slice A es.length cap] 29)) (base := w.heap.size) (fun _ => 0) (by simp)
    rw [show (w.alloc (.cells #[.int .i64 n, .slice A es.length cap] 29)).heap.size = w.heap.size + 1 by simp] at this
    exact this.below ((Below.refl (w.heap.size + 2) _).alloc (by simp) _) (by omega)
  have e0 : arrC (fun _ => 0) = #[.int .i64 0, .int .i64 0, .int .i64 0, .int .i64 0, .int .i64 0, .int .i64 0, .int .i64 0] := rfl
  rw [e0] at B0 L0 A0 Z0
  clear e0
  generalize hW : (((w.alloc (.cells #[.int .i64 n, .slice A es.length cap] 29)).alloc (.cells #[.int .i64 0, .int .i64 0, .int .i64 0, .int .i64 0, .int .i64 0, .int .i64 0, .int .i64 0] 81)).alloc (.cells #[.int .i64 0, .int .i64 0, .int .i64 0, .int .i64 0, .int .i64 0, .int .i64 0, .int .i64 0] 81)) = W0 at *
  clear hW
  go_loopw [9] (fun t wr => ∃ (k : Nat) (q : Nat → Nat), k ≤ 7 ∧ t = .int .i64 (k : Nat) ∧ Arr wr w.heap.size (w.heap.size + 2) q ∧ (∀ x, x < k → q x = x) ∧ Below (w.heap.size + 2) W0 wr) (fun t _ => 7 - (intOf t).toNat)
  case atStart => exact ⟨0, fun _ => 0, by omega, rfl, A0, fun x hx => by omega, Below.refl _ _⟩
  case round =>
    obtain ⟨k, q, hk, rfl, A1, hq, B1⟩ := hrel
    by_cases hlt : k < 7
    · have f1 := A1.frozen k
      have c1 := A1.cell hlt
      have A2 := A1.store k k
      go_wp2
      go_roundw
      case rel =>
        refine ⟨k + 1, upd q k k, by omega, by go_num, A2, ?_, B1.setCell (Nat.le_refl _) _⟩
        intro x hx
        unfold upd
        split
        · rename_i e; exact e.symm
        · exact hq x (by omega)
      case measure => simp [intOf]; omega
    · obtain rfl : k = 7 := by omega
      have F1 := Forest.start hq
      have L1 := L0.step B1 (by omega)
      obtain ⟨_, _, c0, c1, s1⟩ := id L1
      go_wp2
      go_loopw [19] (fun t wr => ∃ (k : Nat) (R : Nat → Nat), k ≤ es.length ∧ t = .int .i64 (k : Nat) ∧ Way W0 w.heap.size (w.heap.size + 2) R wr ∧ Rep (endsOf es) (bits m) k n.toNat R) (fun t _ => es.length - (intOf t).toNat)
      case atStart => exact ⟨0, _, by omega, rfl, ⟨B1, q, _, A1, F1⟩, Rep.start _ _ _ (fun _ => rfl)⟩
      case round =>
        clear A1 B1 F1 L1 c0 c1 s1 hq q
        obtain ⟨k, R, hk, rfl, W, hR⟩ := hrel
        by_cases hlt : k < es.length
        · obtain ⟨a, b, he, hE, ha1, hb1, ha7, hb7, han, hbn⟩ := fits_ends HN.out hlt
          have L1 := L0.step W.1 (by omega)
          obtain ⟨bl, off, rfl, hbb, g1, g2⟩ := L1.at_ k _ (List.getElem?_eq_getElem hlt)
          rw [he] at g1 g2
          clear L1
          have WA := W.alloc (.cells #[.int .i64 a, .int .i64 b] 57)
          cases ht : m.testBit k with
          | true =>
            have hR' := hR.both (a := a) (b := b) ⟨ha1, han⟩ (.inl hE) ht
            have HT := Lib.hid ht
            clear hE he ht hR W
            go_wp2_with fail
            refine (has_any m k _ (by omega) (by omega)).mono ?_
            rintro e1 w1 ⟨rfl, rfl⟩
            rw [HT.out]
            go_wp2_with fail
            refine (join_any _ a b w.heap.size R _ W0 WA ha7 hb7).mono ?_
            rintro e2 w2 ⟨rfl, W2⟩
            go_wp2
            go_roundw
            case rel => exact ⟨_, _, _, _, _, _, _, _, _, _, _, _, _, _, _, _, _, ⟨k + 1, _, by omega, by go_num, W2, hR'⟩, rfl⟩
            case measure => simp [intOf]; omega
          | false =>
            have hR' := hR.skip ht
            have HT := Lib.hid ht
            clear hE he ht hR W
            go_wp2_with fail
            refine (has_any m k _ (by omega) (by omega)).mono ?_
            rintro e1 w1 ⟨rfl, rfl⟩
            rw [HT.out]
            go_wp2
            go_roundw
            case rel => exact ⟨_, _, _, _, _, _, _, _, _, _, _, _, _, _, _, _, _, ⟨k + 1, _, by omega, by go_num, WA, hR'⟩, rfl⟩
            case measure => simp [intOf]; omega
        · obtain rfl : k = es.length := by omega
          have BB := B0.trans (W.1.mono (by omega))
          have Z1 := Z0.below W.1 (by omega)
          obtain ⟨WB, q, d, A1, F1⟩ := W
          have c0 := A1.cell (show 0 < 7 by omega); have c1 := A1.cell (show 1 < 7 by omega); have c2 := A1.cell (show 2 < 7 by omega); have c3 := A1.cell (show 3 < 7 by omega); have c4 := A1.cell (show 4 < 7 by omega); have c5 := A1.cell (show 5 < 7 by omega); have c6 := A1.cell (show 6 < 7 by omega)
          have z0 := Z1.cell (show 0 < 7 by omega); have z1 := Z1.cell (show 1 < 7 by omega); have z2 := Z1.cell (show 2 < 7 by omega); have z3 := Z1.cell (show 3 < 7 by omega); have z4 := Z1.cell (show 4 < 7 by omega); have z5 := Z1.cell (show 5 < 7 by omega); have z6 := Z1.cell (show 6 < 7 by omega)
          have f0 := Z1.frozen 0; have f1 := Z1.frozen 1; have f2 := Z1.frozen 2; have f3 := Z1.frozen 3; have f4 := Z1.frozen 4; have f5 := Z1.frozen 5; have f6 := Z1.frozen 6
          go_wp2
          refine bodyPost_ret (v := .agg (arrC q)) (by simp [results, Try.results90, arrC, go_sem, *]) rfl ?_
          exact ⟨((((((BB.setCell (by simp) _).setCell (by simp) _).setCell (by simp) _).setCell (by simp) _).setCell (by simp) _).setCell (by simp) _).setCell (by simp) _, q, R, d, rfl, F1, hR⟩
end Go.Proofs.Ytdacfeebidhgnaa
