/- The program's filter of integers by a function's value; all states. -/
import Derived.Test.YtdacfeebidhgnaaRow
namespace Go.Proofs.Ytdacfeebidhgnaa
open Go.RowKit
set_option maxRecDepth 100000

theorem one_cell (x : Int) (w : World) (B : Nat) : ∀ j u, [(.int .i64 x : Value)][j]? = some u → (w.alloc (.cells #[.int .i64 x] B)).cell? ((⟨w.heap.size, 0, none⟩ : Addr).add j) = some u := by
  intro j u hj
  match j, hj with
  | 0, hj => simp at hj; subst hj; simp [Addr.add]
theorem take_filter_one {q : Int → Bool} {xs : List Int} {k : Nat} {x : Int} (h : xs[k]? = some x) : (xs.take (k + 1)).filter q = (xs.take k).filter q ++ (if q x = true then [x] else []) := by
  obtain ⟨hk, rfl⟩ := List.getElem?_eq_some_iff.1 h
  rw [List.take_succ_eq_append_getElem hk, List.filter_append]
  congr 1
  simp only [List.filter_cons, List.filter_nil]
theorem take_filter_len (q : Int → Bool) (xs : List Int) (k : Nat) : ((xs.take k).filter q).length ≤ k :=
  Nat.le_trans (List.length_filter_le _ _) (by rw [List.length_take]; omega)

set_option maxHeartbeats 1000000 in
theorem sieve_any (F : FuncId) (caps : Array Value) (q : Int → Bool) (A : Option Addr) (cap : Nat) (xs : List Int) (w : World) (hxs : IntsIn w w.heap.size A xs) (hl : xs.length ≤ 1048576)
    (hF : ∀ (args : Array Value) (u : World), (callFunc F args).run Try.prog u = .ok (.enter F args) u)
    (hq : ∀ u, Below w.heap.size w u → ∀ x ∈ xs, Calls Try.prog F (#[.int .i64 x] ++ caps) u fun e w' => e = .returned (.bool (q x)) ∧ Below u.heap.size u w') :
    Calls Try.prog 68 #[.slice A xs.length cap, .func (.func F) #[] caps] w (GotInts w (xs.filter q)) := by
  obtain ⟨i0, hi0, hz0, hz1, hz2⟩ := info_parts int_info
  have HQ := Lib.hid hq
  obtain ⟨m, hm⟩ : ∃ m, xs.length = m := ⟨_, rfl⟩
  rw [hm] at hl ⊢
  have HM := Lib.hid hm
  clear hq hm
  go_enter Try.func68, Try.ntmps68
  go_wp2_with fail
  go_loopw [5, 10] (fun v i wr => ∃ k : Nat, k ≤ m ∧ i = .int .i64 (k : Nat) ∧ OwnI wr w.heap.size v ((xs.take k).filter q) ∧ Below w.heap.size w wr) (fun _ i _ => m - (intOf i).toNat)
  case atStart => exact ⟨0, by omega, rfl, OwnI.nil _ _, Below.refl _ _⟩
  case round =>
    obtain ⟨k, hk, rfl, own, hb⟩ := hrel
    by_cases hlt : k < m
    · have k1 : k < xs.length := by have := HM.out; omega
      obtain ⟨x, hx⟩ : ∃ x, xs[k]? = some x := ⟨_, List.getElem?_eq_getElem k1⟩
      obtain ⟨b, off, rfl, hbb, g1⟩ := (hxs.below hb (Nat.le_refl _)) k _ hx
      have hcall := HQ.out wr hb x (List.mem_of_getElem? hx)
      have hnext := take_filter_one (q := q) hx
      cases hv : q x with
      | true =>
        rw [hv] at hcall hnext
        go_wp2_with fail
        refine hcall.mono ?_
        clear hcall
        rintro e1 w1 ⟨rfl, hb1⟩
        have own1 := own.below hb1 own.lt
        have hb2 := hb.trans (hb1.mono hb.size)
        have hlen := take_filter_len q xs k
        have hsz := hb2.size
        clear own hb hb1 HQ g1 hxs
        go_wp2_with (at_builtin; refine wpList_append_own _ rfl _ _ 33 rfl w.heap.size 3 i0 (.int .i64 0) 1 8 Try.underlying33 hi0 hz0 hz1 hz2 rfl (by decide) _ _ _ rfl (own1.alloc _) ⟨w1.heap.size, 0, none⟩ 1 1 [.int .i64 x] rfl rfl (one_cell x _ _) (by intro u hu; simp at hu; subst hu; rfl) (by unfold maxLen; omega) (by omega) (by simp; omega) ?_; intro v3 w3 hown3 hgrow _)
        go_roundw
        case rel =>
          have e : (xs.take (k + 1)).filter q = (xs.take k).filter q ++ [x] := by rw [hnext]; simp
          refine ⟨k + 1, by omega, by go_num, ?_, (hb2.alloc (by omega) _).grown hgrow (by simp; omega) ?_⟩
          · unfold OwnI; rw [e, List.length_append, ints_append]; exact hown3
          · exact fun j hj => own1.ge j hj
        case measure => simp [intOf]; omega
      | false =>
        rw [hv] at hcall hnext
        go_wp2_with fail
        refine hcall.mono ?_
        clear hcall
        rintro e1 w1 ⟨rfl, hb1⟩
        have own1 := own.below hb1 own.lt
        have hb2 := hb.trans (hb1.mono hb.size)
        have e : (xs.take (k + 1)).filter q = (xs.take k).filter q := by rw [hnext]; simp
        rw [← e] at own1
        clear own hb hb1 HQ g1 hxs hnext e
        go_wp2_with fail
        go_roundw
        case rel => exact ⟨k + 1, by omega, by go_num, own1, hb2⟩
        case measure => simp [intOf]; omega
    · obtain rfl : k = m := by omega
      have e : (xs.take k).filter q = xs.filter q := by rw [← HM.out, List.take_length]
      rw [e] at own
      obtain ⟨ys, hys⟩ : ∃ ys, xs.filter q = ys := ⟨_, rfl⟩
      rw [hys] at own
      have HY := Lib.hid hys
      clear hys e
      rcases own.form with ⟨rfl, rfl⟩ | ⟨g, c, rfl, _, _⟩
      · go_wp2_with fail
        go_returns
        exact ⟨none, 0, by rw [HY.out]; rfl, by rw [HY.out]; exact own, hb⟩
      · go_wp2_with fail
        go_returns
        exact ⟨some ⟨g, 0, none⟩, c, by rw [HY.out]; rfl, by rw [HY.out]; exact own, hb⟩
end Go.Proofs.Ytdacfeebidhgnaa
