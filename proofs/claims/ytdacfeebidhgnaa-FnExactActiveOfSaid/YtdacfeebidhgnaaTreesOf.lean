/- TreesOf of the reference: all trees of a net. -/
import Derived.Test.YtdacfeebidhgnaaImpl9
import Derived.Test.YtdacfeebidhgnaaSpec9
import Derived.Test.YtdacfeebidhgnaaSieve
import Derived.Test.YtdacfeebidhgnaaList4
namespace Go.Proofs.Ytdacfeebidhgnaa
open Go.RowKit
set_option maxRecDepth 100000

def treesK (n : Int) (es : List (Int × Int)) (s : Nat) : List Nat := (List.range s).filter fun t => treeB n es (t : Nat)
def treesN (n : Int) (es : List (Int × Int)) : List Nat := if netOkB n es = true then treesK n es (2 ^ es.length) else []
theorem treesK_hit {n : Int} {es : List (Int × Int)} {s : Nat} (h : treeB n es (s : Nat) = true) : treesK n es (s + 1) = treesK n es s ++ [s] := by
  unfold treesK; rw [List.range_succ, List.filter_append]; simp [h]
theorem treesK_miss {n : Int} {es : List (Int × Int)} {s : Nat} (h : treeB n es (s : Nat) = false) : treesK n es (s + 1) = treesK n es s := by
  unfold treesK; rw [List.range_succ, List.filter_append]; simp [h]
theorem treesK_len (n : Int) (es : List (Int × Int)) (s : Nat) : (treesK n es s).length ≤ s := by
  unfold treesK; exact Nat.le_trans (List.length_filter_le _ _) (by rw [List.length_range]; exact Nat.le_refl _)
theorem treesN_len (n : Int) (es : List (Int × Int)) : (treesN n es).length ≤ 512 := by
  unfold treesN
  split
  · rename_i h
    have h9 := (netOkB_iff.1 h).2.1
    exact Nat.le_trans (treesK_len _ _ _) (Nat.pow_le_pow_right (n := 2) (by omega) h9)
  · simp
theorem treesN_mem {n : Int} {es : List (Int × Int)} {t : Nat} : t ∈ treesN n es ↔ treeB n es (t : Nat) = true := by
  unfold treesN treesK
  split
  · rename_i h
    rw [List.mem_filter, List.mem_range]
    refine ⟨fun k => k.2, fun k => ⟨?_, k⟩⟩
    obtain ⟨m, e, hm, -⟩ := state_nat (treeB_ok k)
    omega
  · rename_i h
    refine ⟨fun k => by simp at k, fun k => absurd (stateOkB_net (treeB_ok k)) h⟩

/-- The class of worlds in which the loop runs. -/
structure OutTr (w u : World) (n : Int) (A : Option Addr) (cap : Nat) (es : List (Int × Int)) (v : Value) (xs : List Int) : Prop where
  net : ArgNet w u n A cap es
  own : OwnI u (w.heap.size + 1) v xs
theorem OutTr.next {w u u' : World} {n : Int} {A : Option Addr} {cap : Nat} {es : List (Int × Int)} {v : Value} {xs : List Int} (h : OutTr w u n A cap es v xs) (hb : Below u.heap.size u u') : OutTr w u' n A cap es v xs :=
  ⟨h.net.step hb h.net.lt, h.own.below hb h.own.lt⟩
theorem OutTr.on {w u : World} {n : Int} {A : Option Addr} {cap : Nat} {es : List (Int × Int)} {v : Value} {xs : List Int} (h : OutTr w u n A cap es v xs) : ∀ w', Below u.heap.size u w' → OutTr w w' n A cap es v xs := fun _ hb => h.next hb
theorem OutTr.drew {w u : World} {n : Int} {A : Option Addr} {cap : Nat} {es : List (Int × Int)} {v : Value} {xs : List Int} (h : OutTr w u n A cap es v xs) : OutTr w u.drew n A cap es v xs :=
  ⟨h.net.drew, h.own.drew⟩

end Go.Proofs.Ytdacfeebidhgnaa
