/- A list sorted by the library, and each of it once. -/
import Derived.Test.YtlcgbmeneajfoaaVals
import Derived.Test.YtlcgbmeneajfoaaLeast8
import Derived.Test.YtlcgbmeneajfoaaLaySort
import Derived.Lib.SlKeysI
namespace Go.Proofs.Ytlcgbmeneajfoaa
open Go.RowKit Go.Shelf Go.Sort
set_option maxRecDepth 100000

theorem ints_enc (xs : List Int) : ints xs = xs.map encZ := rfl

set_option maxHeartbeats 1000000 in
/-- What an iterator over a list gives, sorted, in a row of the call's own. -/
theorem sorted_any (Bs cap : Nat) (A : Option Addr) (xs : List Int) (hl : xs.length ≤ 1048576) (w : World) (hBs : Bs < w.heap.size)
    (hc0 : w.cell? ⟨Bs, 0, none⟩ = some (.slice A xs.length cap)) (hin : IntsIn w w.heap.size A xs) :
    Calls Try.prog 75 #[.func (.func 88) #[] #[.pointer (some ⟨Bs, 0, none⟩)]] w (GotInts w (sortI xs)) := by
  refine (callsIn_wide (n := 6)).1 ?_
  have hC := collect_any Fence.wide 5 trivial trivial trivial rfl (by omega) Bs cap A xs hl w hBs hc0 hin
  have hf1 : Fence.wide.fn 86 := trivial
  have hf2 : Fence.wide.fn 87 := trivial
  refine callsIn_of_wp Try.func75 rfl trivial ?_ rfl
  simp only [Try.ntmps75, List.size_toArray, List.length_cons, List.length_nil, Nat.reduceAdd, Nat.reduceSub, Array.replicate_succ, Array.replicate_zero, List.push_toArray, List.append_toArray, List.nil_append, List.cons_append]
  gi_wp2_with (gi_at_call 86; refine hC.mono ?_; rintro e W ⟨v, rfl, own, hb⟩)
  have own0 := own
  unfold OwnI at own
  rcases own.2 with ⟨rfl, hz⟩ | ⟨gb, cap, cur, rfl, hbase, hgb, r1, r2, r3, r4⟩
  · have hss : xs = [] := List.eq_nil_of_length_eq_zero hz
    subst hss
    have cS : CallsIn Fence.wide 5 Try.prog 87 #[.slice none 0 0] W fun e w' => e = .returned (.tuple #[]) ∧ w' = W := callsIn_wide.2 (AnyM.slices_Sort_int_none laySort none 0 W)
    gi_wp2_with (gi_at_call 87; refine cS.mono ?_; rintro e w' ⟨rfl, rfl⟩)
    go_ret
    have e0 : sortI [] = [] := by simp [sortI]
    refine ⟨none, 0, by rw [e0]; rfl, ?_, hb⟩
    rw [e0]; exact own0
  · have hH : Holds encZ W gb 0 xs.toArray := holds_of_block_i hgb (by simpa [ints_enc] using r4)
    have hgl : gb < W.heap.size := (Array.getElem?_eq_some_iff.1 hgb).1
    have cS : CallsIn Fence.wide 5 Try.prog 87 #[.slice (some ⟨gb, 0, none⟩) xs.length cap] W fun e w' => e = .returned (.tuple #[]) ∧ ∃ k os, w' = grow (putRow encZ (Sort.ahead W k) gb 0 (sortI xs).toArray) os := callsIn_wide.2 (AnyM.slices_Sort_int laySort gb 0 cap xs W hH hgl (by omega))
    have hsl := sortI_len xs
    have HX := Lib.hid (ownsRow_sorted_i (n := 0) (os := #[]) (ts := sortI xs) (by omega) hbase hgb r1 r2 r3)
    gi_wp2_with (gi_at_call 87; refine cS.mono ?_; rintro e w' ⟨rfl, nn, os, rfl⟩)
    go_ret
    refine ⟨some ⟨gb, 0, none⟩, cap, by rw [hsl]; rfl, ?_, hb.grown (grownBy_sorted_i _) hb.size (fun j hj => by cases hj; exact hbase)⟩
    unfold OwnI
    rw [hsl]
    exact ownsRow_sorted_i (by omega) hbase hgb r1 r2 r3

theorem enc_one : OneCell (Value.int .i64) := fun _ => rfl
set_option maxHeartbeats 1000000 in
/-- Each of a sorted list once: in the same row. -/
theorem compact_own (base : Nat) (A : Option Addr) (n c : Nat) (xs : List Int) (w : World) (own : OwnI w base (.slice A n c) xs) (hl : xs.length ≤ 1048576) :
    Calls Try.prog 74 #[.slice A n c] w fun e w' => e = .returned (.slice A (onceI xs).length c) ∧ OwnI w' base (.slice A (onceI xs).length c) (onceI xs) ∧ Below base w w' := by
  have hn := own.len
  subst hn
  have own0 := own
  unfold OwnI at own
  rcases own.2 with ⟨hv, hz⟩ | ⟨gb, cap, cur, hv, hbase, hgb, r1, r2, r3, r4⟩
  · have hss : xs = [] := List.eq_nil_of_length_eq_zero hz
    subst hss
    injection hv with h1 h2 h3
    subst h1 h3
    go_enter Try.func74, Try.ntmps74
    go_wp2_with fail
    go_returns
    exact ⟨rfl, own0, Below.refl _ _⟩
  · injection hv with h1 h2 h3
    subst h1 h3
    have hH : Holds (Value.int .i64) w gb 0 xs.toArray := holds_of_block_i hgb (by simpa [ints_enc] using r4)
    have hlen := onceI_len xs
    refine (AnyE.slices_Compact layCompact (Value.int .i64) enc_one (EqlAt.intD _ _ _) (NeqAt.intD _ _ _) 0 (fun _ => rfl) gb 0 c xs.toArray w hH (by simp; omega) (by simp; omega)).mono ?_
    rintro e w' ⟨rfl, q, rfl⟩
    have hsz : (Lib.compactUpTo xs.toArray xs.toArray.size ++ List.replicate (xs.toArray.size - (Lib.compactUpTo xs.toArray xs.toArray.size).length) (0 : Int)).length = xs.length := by
      have h : (Lib.compactUpTo xs.toArray xs.toArray.size).length ≤ xs.length := hlen
      simp only [List.length_append, List.length_replicate, List.size_toArray] at h ⊢
      omega
    have hrow := ownsRow_sorted_i (n := q) (os := #[]) hsz hbase hgb r1 r2 r3
    have hg := grownBy_sorted_i (w := w) (g := gb) (n := q) (os := #[]) (Lib.compactUpTo xs.toArray xs.toArray.size ++ List.replicate (xs.toArray.size - (Lib.compactUpTo xs.toArray xs.toArray.size).length) (0 : Int)).toArray
    rw [grow_empty] at hrow hg
    refine ⟨rfl, ?_, (Below.refl _ _).grown hg (by have := (Array.getElem?_eq_some_iff.1 hgb).1; omega) (fun j hj => by cases hj; exact hbase)⟩
    rcases hrow.2 with ⟨hv, _⟩ | ⟨g2, cap2, cur2, hv, k1, k2, k3, k4, k5, k6⟩
    · cases hv
    · injection hv with h1 h2 h3
      cases h1
      subst h3
      refine ⟨by simp [ints_length], .inr ⟨gb, c, cur2, rfl, hbase, k2, by omega, k4, k5, ?_⟩⟩
      have e : (onceI xs).length * 1 = min (onceI xs).length xs.length := by omega
      have := congrArg (List.take (onceI xs).length) k6
      rw [List.take_take] at this
      rw [show min (onceI xs).length (xs.length * 1) = (onceI xs).length * 1 by omega] at this
      rw [this, ints_enc, List.map_append, List.take_append_of_le_length (by rw [List.length_map]; exact Nat.le_refl _)]
      exact List.take_of_length_le (by rw [List.length_map]; exact Nat.le_refl _)
end Go.Proofs.Ytlcgbmeneajfoaa
