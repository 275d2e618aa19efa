/- ShortestOf, ThinnestOf, ApartPaths of the reference. -/
import Derived.Test.YtfflfinhhdhnkaaSpec4
namespace Go.Proofs.Ytfflfinhhdhnkaa
open Go.RowKit
set_option maxRecDepth 100000

theorem specShortestOf_any (n a b : Int) (A : Option Addr) (cap : Nat) (es : List (Int × Int)) (w : World) (hes : EdgesIn w w.heap.size A es) (hl : es.length ≤ 1048576) :
    Calls Try.prog 35 #[.agg #[.int .i64 n, .slice A es.length cap], .int .i64 a, .int .i64 b] w fun e w' => e = .returned (.int .i64 (minAll (pathsN n es a b))) ∧ Below w.heap.size w w' := by
  have L0 := ArgNet.start (cap := cap) (n := n) 25 hes
  have hlen := pathsN_len n es a b
  have hx : ∀ x ∈ pathsN n es a b, x < 512 := fun x => pathsN_lt
  have HC := Lib.hid (specPathsOf_any n a b A cap es _ L0.edges hl)
  generalize pathsN n es a b = xs at *
  have HX := Lib.hid hx
  clear hx
  obtain ⟨m, hm⟩ : ∃ m, xs.length = m := ⟨_, rfl⟩
  have HA : Hid (minAll xs = minTo xs m) := by rw [Hid, ← hm]; rfl
  have HM := Lib.hid hm
  rw [hm] at hlen
  clear hm
  have c0 := L0.c0
  have c1 := L0.c1
  go_enter Try.func35, Try.ntmps35
  go_wp2_with fail
  refine HC.out.mono ?_
  rintro e1 w1 h1
  obtain ⟨A1, k1, rfl, own1, _, hb1⟩ := natI_got h1
  have L1 := L0.step hb1 L0.lt
  rw [HM.out] at own1 ⊢
  have hin := own1.ints
  have B1 := L1.below
  clear h1 L0 c0 c1 own1 hb1 L1
  go_wp2_with fail
  go_loopw [7, 9] (fun v t wr => ∃ k : Nat, k ≤ m ∧ v = .int .i64 (minTo xs k) ∧ t = .int .i64 (k : Nat) ∧ wr = w1) (fun _ t _ => m - (intOf t).toNat)
  case atStart => exact ⟨0, by omega, rfl, rfl, rfl⟩
  case round =>
    obtain ⟨k, hk, rfl, rfl, rfl⟩ := hrel
    by_cases hlt : k < m
    · have kx : k < xs.length := by have := HM.out; omega
      obtain ⟨b, off, rfl, hbb, g1⟩ := hin k _ (natI_at kx)
      have h512 := HX.out _ (getD_mem kx)
      have hM : ∀ v, Calls Try.prog 45 #[.int .i64 (xs.getD k 0 : Nat)] v fun e w' => e = .returned (.int .i64 (pop (xs.getD k 0))) ∧ v = w' := fun v => l1Many_any _ v (by omega)
      have hlow := minTo_low xs k
      have hnext : minTo xs (k + 1) = if minTo xs k < 0 ∨ (pop (xs.getD k 0) : Int) < minTo xs k then ((pop (xs.getD k 0) : Nat) : Int) else minTo xs k := rfl
      generalize xs.getD k 0 = x at *
      generalize pop x = p at *
      generalize hf : minTo xs k = f at *
      clear hf
      by_cases h1 : f < 0
      · have HN : Hid (minTo xs (k + 1) = (p : Int)) := by rw [Hid, hnext, if_pos (.inl h1)]
        clear hnext hin hlow
        go_wp2_with fail
        refine (hM _).mono ?_
        rintro e2 w2 ⟨rfl, rfl⟩
        go_wp2_with fail
        go_roundw
        case rel => exact ⟨k + 1, by omega, by rw [HN.out], by go_num, by first | rfl | trivial⟩
        case measure => simp [intOf]; omega
      · by_cases h3 : (p : Int) < f
        · have HN : Hid (minTo xs (k + 1) = (p : Int)) := by rw [Hid, hnext, if_pos (.inr h3)]
          clear hnext hin hlow
          go_wp2_with fail
          refine (hM _).mono ?_
          rintro e2 w2 ⟨rfl, rfl⟩
          go_wp2_with fail
          refine (hM _).mono ?_
          rintro e2 w2 ⟨rfl, rfl⟩
          go_wp2_with fail
          go_roundw
          case rel => exact ⟨k + 1, by omega, by rw [HN.out], by go_num, by first | rfl | trivial⟩
          case measure => simp [intOf]; omega
        · have HN : Hid (minTo xs (k + 1) = f) := by rw [Hid, hnext, if_neg (by omega)]
          clear hnext hin hlow
          go_wp2_with fail
          refine (hM _).mono ?_
          rintro e2 w2 ⟨rfl, rfl⟩
          go_wp2_with fail
          go_roundw
          case rel => exact ⟨k + 1, by omega, by rw [HN.out], by go_num, by first | rfl | trivial⟩
          case measure => simp [intOf]; omega
    · obtain rfl : k = m := by omega
      go_wp2_with fail
      go_returns
      exact ⟨retI HA.out.symm, B1⟩

end Go.Proofs.Ytfflfinhhdhnkaa
