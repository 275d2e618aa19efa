/- sameNet, of two nets that are equal. -/
import Derived.Test.YtonofgpghfolpaaEq
import Derived.Test.YtonofgpghfolpaaState
namespace Go.Proofs.Ytonofgpghfolpaa
open Go.RowKit

theorem sameNet_self (n : Int) (A B : Option Addr) (c d : Nat) (es : List (Int × Int)) (w : World) (hes : EdgesIn w w.heap.size A es) (hfs : EdgesIn w w.heap.size B es) (hl : es.length ≤ 1048576) :
    Calls Try.prog 18 #[.agg #[.int .i64 n, .slice A es.length c], .agg #[.int .i64 n, .slice B es.length d]] w fun e w' => e = .returned (.bool true) ∧ Below w.heap.size w w' := by
  have L0 := (ArgNet.start (cap := c) (n := n) 25 hes).step ((Below.refl _ _).alloc (Nat.le_refl _) (.cells #[.int .i64 n, .slice B es.length d] 25)) (by simp)
  have hfs' := hfs.below (w' := (w.alloc (.cells #[.int .i64 n, .slice A es.length c] 25)).alloc (.cells #[.int .i64 n, .slice B es.length d] 25)) (by go_grown) (Nat.le_refl _)
  have d0 : ((w.alloc (.cells #[.int .i64 n, .slice A es.length c] 25)).alloc (.cells #[.int .i64 n, .slice B es.length d] 25)).cell? ⟨w.heap.size + 1, 1, none⟩ = some (.slice B es.length d) := by
    rw [World.cell?_alloc_at _ _ _ _ (by simp)]; rfl
  clear hes hfs
  generalize hlen : es.length = m at *
  have HL := Lib.hid hlen
  clear hlen
  go_enter Try.func18, Try.ntmps18
  go_wp2_with fail
  go_loopw [5] (fun i wr => ∃ k : Nat, k ≤ m ∧ i = .int .i64 k ∧ Below (w.heap.size + 2) ((w.alloc (.cells #[.int .i64 n, .slice A m c] 25)).alloc (.cells #[.int .i64 n, .slice B m d] 25)) wr) (fun i _ => m - (intOf i).toNat)
  case atStart => exact ⟨0, by omega, rfl, Below.refl _ _⟩
  case round =>
    obtain ⟨k, hk, rfl, hb⟩ := hrel
    have e1 : wr.cell? ⟨w.heap.size, 1, none⟩ = some (.slice A m c) := by
      rw [hb.cell (p := ⟨w.heap.size, 1, none⟩) (by simp), World.cell?_alloc_past _ _ _ (by simp), World.cell?_alloc_at _ _ _ _ rfl]; rfl
    have e2 : wr.cell? ⟨w.heap.size + 1, 1, none⟩ = some (.slice B m d) := (hb.cell (p := ⟨w.heap.size + 1, 1, none⟩) (by simp)).trans d0
    by_cases hlt : k < m
    · have k1 : k < es.length := by have := HL.out; omega
      obtain ⟨b, off, rfl, hbb, g1, g2⟩ := (L0.at_.below hb (by omega)) k _ (List.getElem?_eq_getElem k1)
      obtain ⟨b', off', rfl, hbb', g1', g2'⟩ := (hfs'.below hb (by omega)) k _ (List.getElem?_eq_getElem k1)
      clear L0 hfs' d0
      generalize es[k] = e at *
      go_wp2_with fail
      go_quiet (fail)
      go_wp2_with fail
      go_roundw
      case rel => exact ⟨k + 1, by omega, by go_num, belowN hb _⟩
      case measure => simp [intOf]; omega
    · obtain rfl : k = m := by omega
      go_wp2_with fail
      go_returns
      exact ⟨rfl, ((boxB w _ _).trans ((Below.refl _ _).alloc (by simp) _)).trans (hb.mono (by omega))⟩
end Go.Proofs.Ytonofgpghfolpaa
