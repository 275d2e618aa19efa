/- Chances of the program: ChanceOk and countsOk. -/
import Derived.Test.YtdacfeebidhgnaaChance
import Derived.Test.YtdacfeebidhgnaaImplCnt
import Derived.Test.YtdacfeebidhgnaaDrawR
import Derived.Deep.AppendLies
import Derived.Deep.RegionHeld3
namespace Go.Proofs.Ytdacfeebidhgnaa
open Go.RowKit
set_option maxRecDepth 100000

def countsB (xs : List Int) : Bool := decide (1 ≤ xs.length ∧ xs.length ≤ 10) && rowB xs
theorem waysB_counts (xs : List Int) (p m : Int) : waysB xs p m = (countsB xs && chanceB p m) := by
  unfold waysB countsB; rw [Bool.and_comm]
end Go.Proofs.Ytdacfeebidhgnaa

/- Powers in a table, and what weighs counts. -/
namespace Go.Proofs.Ytdacfeebidhgnaa
open Go.RowKit
set_option maxRecDepth 100000

def pwL (x k : Nat) : List Int := rowL (fun i => ((x ^ i : Nat) : Int)) (k + 1)
theorem pwL_length (x k : Nat) : (pwL x k).length = k + 1 := rowL_length _ _
theorem pwL_get (x k : Nat) {i : Nat} (h : i ≤ k) : (pwL x k)[i]? = some ((x ^ i : Nat) : Int) := rowL_get _ (by omega)
theorem pwL_more (x k : Nat) : pwL x k ++ [((x ^ (k + 1) : Nat) : Int)] = pwL x (k + 1) := by
  unfold pwL rowL
  rw [List.range_succ (n := k + 1), List.map_append]; rfl

set_option maxHeartbeats 1000000 in
theorem powersOf_any (x m : Nat) (hx : x ≤ 5) (hm : m ≤ 9) (w : World) :
    Calls Try.prog 83 #[.int .i64 x, .int .i64 m] w (GotInts w (pwL x m)) := by
  obtain ⟨i0, hi0, hz0, hz1, hz2⟩ := info_parts int_info
  go_enter Try.func83, Try.ntmps83
  go_wp2_with fail
  go_loopw [5, 8] (fun v i wr => ∃ (A : Option Addr) (c k : Nat), k ≤ m ∧ i = .int .i64 (k : Nat) ∧ v = .slice A (k + 1) c ∧ OwnI wr w.heap.size (.slice A (k + 1) c) (pwL x k) ∧ Below w.heap.size w wr) (fun _ i _ => m - (intOf i).toNat)
  case atStart => exact ⟨some ⟨w.heap.size, 0, none⟩, 1, 0, by omega, rfl, rfl, OwnI.box w (pwL x 0) (Nat.le_refl _) (by simp [pwL_length, maxLen]), (Below.refl _ _).alloc (Nat.le_refl _) _⟩
  case round =>
    obtain ⟨A, c, k, hk, rfl, rfl, own, hb⟩ := hrel
    by_cases hlt : k < m
    · obtain ⟨b, off, rfl, hbb, g1⟩ := own.ints k _ (pwL_get x k (Nat.le_refl _))
      have hY := pw_bound hx (show k ≤ 9 by omega)
      have hs : Hid (((x * x ^ k : Nat) : Int) = ((x ^ (k + 1) : Nat) : Int)) := by rw [Hid, Nat.pow_succ, Nat.mul_comm]
      have hb2 : x * x ^ k ≤ 5 * 1953125 := Nat.mul_le_mul hx hY
      have HN := Lib.hid (pwL_more x k)
      rw [← hs.out] at HN
      clear hs
      generalize x ^ k = Y at *
      have hw1 : IntKind.i64.wrap ((x : Int) * (Y : Int)) = ((x * Y : Nat) : Int) := by rw [← Int.natCast_mul]; exact IntWalk.i64_in _ (by omega)
      have hw4 : IntKind.i64.wrap ((k : Int) + 1 - 1) = (k : Int) := by rw [IntWalk.i64_in _ (by omega)]; omega
      generalize x * Y = Z at *
      have HO : Hid (wr.ownsRow w.heap.size 3 1 (.slice (some ⟨b, off, none⟩) (k + 1) c) (k + 1) (ints (pwL x k))) := by
        have h := own
        unfold OwnI at h
        rw [pwL_length] at h; exact h
      have hsz := hb.size
      have ik : (k : Int) < (k : Int) + 1 := by omega
      have ln := pwL_length x k
      go_wp2_with (at_builtin; (refine wpList_append_lies _ rfl (.tmp 10) (.tmp 19) 33 rfl w.heap.size 3 i0 _ 1 8 Try.underlying33 hi0 hz0 hz1 hz2 rfl (by omega) (.slice (some ⟨b, off, none⟩) (k + 1) c) (k + 1) (ints (pwL x k)) rfl (World.ownsRow.alloc HO.out _) ⟨wr.heap.size, 0, none⟩ 1 1 [.int .i64 Z] rfl rfl (World.news_of_block (cs := #[.int .i64 Z]) (t := 3) (fr := (0, 0)) (heap_alloc_new _ _)) (by simp [Value.oneCell']) (by omega) (by simp [maxLen]; omega) (by omega) (by simp; omega) _ rfl ?_); intro gg cc w5 hown5 hgrow hat hlt5)
      have O5 : OwnI w5 w.heap.size (.slice (some ⟨gg, 0, none⟩) (k + 1 + 1) cc) (pwL x (k + 1)) := by
        rw [← HN.out]
        unfold OwnI
        rw [ints_append, List.length_append, ln]; exact hown5
      have hg1 : w.heap.size ≤ b := own.ge b rfl
      have B5 : Below w.heap.size w w5 := by
        have h1 := grown_box hgrow
        exact hb.trans ⟨h1.os, h1.tape, h1.output, h1.size, fun j hj => h1.block j (by omega) (fun e => by have e' : j = b := Option.some.inj e; omega)⟩
      clear HO own hown5 hgrow hat hlt5 HN hb g1
      go_roundw
      case rel => exact ⟨some ⟨gg, 0, none⟩, cc, k + 1, by omega, by go_num, by rfl, O5, B5⟩
      case measure => simp [intOf]; omega
    · obtain rfl : k = m := by omega
      go_wp2_with fail
      go_returns
      exact ⟨A, c, by rw [pwL_length]; rfl, by rw [pwL_length]; exact own, hb⟩
theorem powersOf_is (x m : Nat) (xs : List Int) (h : pwL x m = xs) (hx : x ≤ 5) (hm : m ≤ 9) (w : World) :
    Calls Try.prog 83 #[.int .i64 x, .int .i64 m] w (GotInts w xs) := h ▸ powersOf_any x m hx hm w

/-- What a weighing function lays hold of, in a world. -/
structure Weigher (u : World) (g7 g8 g3 : Nat) (A1 A2 : Option Addr) (c1 c2 l P R : Nat) : Prop where
  k3 : u.cell? ⟨g3, 0, none⟩ = some (.int .i64 l)
  k7 : u.cell? ⟨g7, 0, none⟩ = some (.slice A1 (l + 1) c1)
  k8 : u.cell? ⟨g8, 0, none⟩ = some (.slice A2 (l + 1) c2)
  i1 : IntsIn u u.heap.size A1 (pwL P l)
  i2 : IntsIn u u.heap.size A2 (pwL R l)
  l3 : g3 < u.heap.size
  l7 : g7 < u.heap.size
  l8 : g8 < u.heap.size
theorem Weigher.later {u u' : World} {g7 g8 g3 : Nat} {A1 A2 : Option Addr} {c1 c2 l P R : Nat} (h : Weigher u g7 g8 g3 A1 A2 c1 c2 l P R) (hb : Below u.heap.size u u') : Weigher u' g7 g8 g3 A1 A2 c1 c2 l P R :=
  ⟨(hb.cell h.l3).trans h.k3, (hb.cell h.l7).trans h.k7, (hb.cell h.l8).trans h.k8, (h.i1.below hb (Nat.le_refl _)).more hb.size, (h.i2.below hb (Nat.le_refl _)).more hb.size, Nat.lt_of_lt_of_le h.l3 hb.size, Nat.lt_of_lt_of_le h.l7 hb.size, Nat.lt_of_lt_of_le h.l8 hb.size⟩
theorem OwnI.held {u W : World} {base g n c : Nat} {xs : List Int} (h : OwnI u base (.slice (some ⟨g, 0, none⟩) n c) xs) (hh : W.heap[g]? = u.heap[g]?) : OwnI W base (.slice (some ⟨g, 0, none⟩) n c) xs := by
  rcases h.2 with ⟨h1, h0⟩ | ⟨g', cap, cur, h1, hb', h2, h3, h4, h5, h6⟩
  · cases h1
  · cases h1
    exact ⟨h.1, .inr ⟨g, _, cur, rfl, hb', hh.trans h2, h3, h4, h5, h6⟩⟩
def InW (w : World) (l : Nat) (X : World) : Prop := X.cell? ⟨w.heap.size, 0, none⟩ = some (.int .i64 l) ∧ Below w.heap.size w X ∧ w.heap.size < X.heap.size
theorem InW.call {w X u : World} {l : Nat} (h : InW w l X) (hb : Below X.heap.size X u) : InW w l u := ⟨(hb.cell h.2.2).trans h.1, h.2.1.trans (hb.mono h.2.1.size), Nat.lt_of_lt_of_le h.2.2 hb.size⟩
theorem InW.alloc {w X : World} {l : Nat} (h : InW w l X) (o : Obj) : InW w l (X.alloc o) := ⟨(((Below.refl X.heap.size X).alloc (Nat.le_refl _) o).cell h.2.2).trans h.1, h.2.1.alloc h.2.1.size _, by have := h.2.2; simp; omega⟩
theorem InW.set {w X : World} {l g : Nat} (h : InW w l X) (hg : w.heap.size < g) (v : Value) : InW w l (X.setCell ⟨g, 0, none⟩ v) :=
  ⟨(World.cell?_setCell_far _ _ _ _ (by simp; omega)).trans h.1, h.2.1.setCell (by simp; omega) _, by have := h.2.2; simp; omega⟩
/-- A row that powersOf has made: where it lies. -/
theorem pow_row {X u : World} {xs : List Int} {A : Option Addr} {n c : Nat} (h : OwnI u X.heap.size (.slice A n c) xs) (hn : 0 < xs.length) : ∃ g, A = some ⟨g, 0, none⟩ ∧ X.heap.size ≤ g ∧ g < u.heap.size := by
  rcases h.form with ⟨_, h0⟩ | ⟨g, cap, hv, h1, h2⟩
  · rw [h0] at hn; simp at hn
  · injection hv with hA
    exact ⟨g, hA, h1, h2⟩

theorem InW.drew {w X : World} {l : Nat} (h : InW w l X) : InW w l X.drew := ⟨h.1, h.2.1.drew, h.2.2⟩
theorem undrew {X u : World} (h : Below X.drew.heap.size X.drew u) : Below X.heap.size X u := ⟨h.os, h.tape, h.output, h.size, h.block⟩
theorem alloc_block {X : World} {o : Obj} {k : Nat} (h : k < X.heap.size) : (X.alloc o).heap[k]? = X.heap[k]? := ((Below.refl X.heap.size X).alloc (Nat.le_refl _) o).block k h
/-- A cell that has been made before a call. -/
theorem cel_on {X u : World} {g : Nat} {v : Value} (hb : Below X.heap.size X u) (h1 : X.cell? ⟨g, 0, none⟩ = some v) (h2 : X.frozen? ⟨g, 0, none⟩ = false) (h3 : g < X.heap.size) :
    u.cell? ⟨g, 0, none⟩ = some v ∧ u.frozen? ⟨g, 0, none⟩ = false ∧ g < u.heap.size :=
  ⟨(hb.cell h3).trans h1, (hb.frozen h3).trans h2, Nat.lt_of_lt_of_le h3 hb.size⟩
theorem cel_alloc {X : World} {g : Nat} {v : Value} (o : Obj) (h1 : X.cell? ⟨g, 0, none⟩ = some v) (h2 : X.frozen? ⟨g, 0, none⟩ = false) (h3 : g < X.heap.size) :
    (X.alloc o).cell? ⟨g, 0, none⟩ = some v ∧ (X.alloc o).frozen? ⟨g, 0, none⟩ = false ∧ g < (X.alloc o).heap.size :=
  cel_on ((Below.refl X.heap.size X).alloc (Nat.le_refl _) o) h1 h2 h3
theorem cel_new (X : World) (v : Value) (t : TypeId) :
    (X.alloc (.cells #[v] t)).cell? ⟨X.heap.size, 0, none⟩ = some v ∧ (X.alloc (.cells #[v] t)).frozen? ⟨X.heap.size, 0, none⟩ = false ∧ X.heap.size < (X.alloc (.cells #[v] t)).heap.size :=
  ⟨by rw [World.cell?_alloc_at _ _ _ _ rfl]; rfl, World.frozen?_alloc_at _ _ _ _ rfl, by simp⟩
theorem cel_past {X u : World} {o : Obj} {g : Nat} {v : Value} (hb : Below (X.alloc o).heap.size (X.alloc o) u) (h1 : X.cell? ⟨g, 0, none⟩ = some v) (h2 : X.frozen? ⟨g, 0, none⟩ = false) (h3 : g < X.heap.size) :
    u.cell? ⟨g, 0, none⟩ = some v ∧ u.frozen? ⟨g, 0, none⟩ = false ∧ g < u.heap.size := by
  obtain ⟨k1, k2, k3⟩ := cel_alloc o h1 h2 h3
  exact cel_on hb k1 k2 k3
theorem cel_one {X u : World} {v : Value} {t : TypeId} (hb : Below (X.alloc (.cells #[v] t)).heap.size (X.alloc (.cells #[v] t)) u) :
    u.cell? ⟨X.heap.size, 0, none⟩ = some v ∧ u.frozen? ⟨X.heap.size, 0, none⟩ = false ∧ X.heap.size < u.heap.size := by
  obtain ⟨k1, k2, k3⟩ := cel_new X v t
  exact cel_on hb k1 k2 k3
theorem cel_two {X u : World} {v v' : Value} {t t' : TypeId} (hb : Below ((X.alloc (.cells #[v] t)).alloc (.cells #[v'] t')).heap.size ((X.alloc (.cells #[v] t)).alloc (.cells #[v'] t')) u) :
    (u.cell? ⟨X.heap.size, 0, none⟩ = some v ∧ u.frozen? ⟨X.heap.size, 0, none⟩ = false ∧ X.heap.size < u.heap.size) ∧
    u.cell? ⟨X.heap.size + 1, 0, none⟩ = some v' ∧ u.frozen? ⟨X.heap.size + 1, 0, none⟩ = false ∧ X.heap.size + 1 < u.heap.size := by
  obtain ⟨k1, k2, k3⟩ := cel_new X v t
  refine ⟨cel_past hb k1 k2 k3, ?_⟩
  have h := cel_one hb
  rw [World.size_alloc] at h
  exact h

end Go.Proofs.Ytdacfeebidhgnaa
