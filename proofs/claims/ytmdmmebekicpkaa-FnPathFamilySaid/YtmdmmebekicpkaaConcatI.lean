/- slices.Concat of two lists of numbers. -/
import Derived.Test.YtmdmmebekicpkaaSieve
import Derived.OwnWalk
import Derived.Laws.AppendOwnNone
namespace Go.Proofs.Ytmdmmebekicpkaa
open Go.RowKit
set_option maxRecDepth 100000

theorem cellsI {w : World} {B : Nat} {a : Addr} {xs : List Int} (h : IntsIn w B (some a) xs) : ∀ j u, (ints xs)[j]? = some u → w.cell? (a.add j) = some u := by
  intro j u hu
  have hj : j < xs.length := by rw [← ints_length]; exact (List.getElem?_eq_some_iff.1 hu).1
  have hx := List.getElem?_eq_getElem hj
  rw [ints_get hx] at hu
  obtain ⟨b, off, hA, _, hc⟩ := h j _ hx
  injection hA with hA
  subst hA
  have hadd : (⟨b, off, none⟩ : Addr).add j = ⟨b, off + j, none⟩ := by unfold Addr.add; split <;> simp_all
  rw [hadd, hc]; exact hu
theorem ints_one (xs : List Int) : ∀ u ∈ ints xs, u.oneCell' = true := by
  intro u hu
  obtain ⟨x, _, rfl⟩ := List.mem_map.1 hu
  rfl

def GrewI (w : World) (e : Ending) (w' : World) : Prop := ∃ A c, e = .returned (.slice A 0 c) ∧ OwnI w' w.heap.size (.slice A 0 c) [] ∧ Below w.heap.size w w'
theorem growI_any (m : Nat) (w : World) (hm : m ≤ 1000) :
    Calls Try.prog 119 #[.slice none 0 0, .int .i64 m] w (GrewI w) := by
  obtain ⟨i0, hi0, hz0, hz1, hz2⟩ := info_parts int_info
  by_cases h0 : m = 0
  · subst h0
    go_enter Try.func119, Try.ntmps119
    go_wp2
    go_returns
    exact ⟨none, 0, rfl, OwnI.nil _ _, Below.refl _ _⟩
  · have hb8 : Try.t3.bytes = 8 := by kernel_rfl
    have hnx : Builtin.nextslicecap m 0 = m := by unfold Builtin.nextslicecap; simp; omega
    go_enter Try.func119, Try.ntmps119
    go_wp2_with fail
    go_returns
    have hge := grownCap_ge w m 0 3
    have hle := grownCap_le_maxLen w m 0 3 (by simp [maxLen]; omega)
    unfold grownCap at hge
    refine ⟨_, _, rfl, ?_, ?_⟩
    · exact World.ownsRow_made w _ _ (Nat.le_refl _) hle (by rw [Array.size_append, size_zeroCells, size_zeroCells]; show m * 1 + _ * 1 = _ * 1; omega)
    · exact ((Below.refl _ _).alloc (Nat.le_refl _) _).drew

set_option maxHeartbeats 1000000 in
theorem concatI_ss (sb : Nat) (a1 : Addr) (n1 c1 : Nat) (xs : List Int) (a2 : Addr) (n2 c2 : Nat) (ys : List Int) (w : World) (h1 : w.cell? ⟨sb, 0, none⟩ = some (.slice (some a1) n1 c1)) (h2 : w.cell? ⟨sb, 1, none⟩ = some (.slice (some a2) n2 c2))
    (g1 : IntsIn w w.heap.size (some a1) xs) (l1 : n1 = xs.length) (g2 : IntsIn w w.heap.size (some a2) ys) (l2 : n2 = ys.length) (hl : n1 + n2 ≤ 1000) :
    Calls Try.prog 76 #[.slice (some ⟨sb, 0, none⟩) 2 2] w (GotInts w (xs ++ ys)) := by
  obtain ⟨i0, hi0, hz0, hz1, hz2⟩ := info_parts int_info
  have hsb := World.block_lt_of_cell? w _ h1
  have L1 := Lib.hid l1
  clear l1
  have L2 := Lib.hid l2
  clear l2
  go_enter Try.func76, Try.ntmps76
  go_wp2_with fail
  refine wp_loop_rounds 3 ?_
  rw [rounds_succ]
  go_wp2_with fail
  rw [rounds_succ]
  go_wp2_with fail
  rw [rounds_succ]
  go_wp2_with fail
  rw [← Int.natCast_add]
  refine (growI_any (n1 + n2) w (by omega)).mono ?_
  rintro e1 w1 ⟨A, c, rfl, hown, hb⟩
  have G1 := g1.below hb (Nat.le_refl _)
  clear g1
  have G2 := g2.below hb (Nat.le_refl _)
  clear g2
  have k1 : w1.cell? ⟨sb, 0, none⟩ = some (.slice (some a1) n1 c1) := (hb.cell (p := ⟨sb, 0, none⟩) hsb).trans h1
  have k2 : w1.cell? ⟨sb, 1, none⟩ = some (.slice (some a2) n2 c2) := (hb.cell (p := ⟨sb, 1, none⟩) hsb).trans h2
  have hsz := hb.size
  clear h1 h2
  go_wp2_with fail
  refine wp_loop_rounds 3 ?_
  rw [rounds_succ]
  go_wp2_with (at_builtin; refine wpList_append_own _ rfl (.tmp 31) (.tmp 32) 23 rfl w.heap.size 3 i0 _ 1 8 Try.underlying23 hi0 hz0 hz1 hz2 rfl (by omega) (.slice A 0 c) 0 (ints []) rfl hown a1 n1 c1 (ints xs) rfl (by rw [ints_length, L1.out, Nat.mul_one]) (cellsI G1) (ints_one xs) (by simp [maxLen]; omega) (by omega) hsz ?_; intro v5 w5 hown5 hgrow5 _)
  have hb5 : Below w.heap.size w1 w5 := (Below.refl _ _).grown hgrow5 hsz (fun k hk => (World.ownsRow.lt hown k hk).1)
  have k1 := (hb5.cell (p := ⟨sb, 0, none⟩) hsb).trans k1
  have k2 := (hb5.cell (p := ⟨sb, 1, none⟩) hsb).trans k2
  have hsz5 := Nat.le_trans hsz hb5.size
  have G2 := G2.below hb5 (Nat.le_refl _)
  rw [rounds_succ]
  go_wp2_with (at_builtin; refine wpList_append_own _ rfl (.tmp 31) (.tmp 32) 23 rfl w.heap.size 3 i0 _ 1 8 Try.underlying23 hi0 hz0 hz1 hz2 rfl (by omega) v5 (0 + n1) (ints [] ++ ints xs) rfl hown5 a2 n2 c2 (ints ys) rfl (by rw [ints_length, L2.out, Nat.mul_one]) (cellsI G2) (ints_one ys) (by simp [maxLen]; omega) (by omega) hsz5 ?_; intro v6 w6 hown6 hgrow6 _)
  have hb6 : Below w.heap.size w5 w6 := (Below.refl _ _).grown hgrow6 hsz5 (fun k hk => (World.ownsRow.lt hown5 k hk).1)
  rw [rounds_succ]
  go_wp2_with fail
  go_returns
  have hO : OwnI w6 w.heap.size v6 (xs ++ ys) := by
    unfold OwnI
    rw [ints_append, List.length_append, ← L1.out, ← L2.out]
    simpa [ints] using hown6
  have hbel := (hb.trans hb5).trans hb6
  rcases hO.form with ⟨rfl, he⟩ | ⟨g, cc, rfl, _⟩
  · rw [he] at hO ⊢
    exact ⟨none, 0, rfl, hO, hbel⟩
  · exact ⟨_, _, rfl, hO, hbel⟩

set_option maxHeartbeats 1000000 in
theorem concatI_sn (sb : Nat) (a1 : Addr) (n1 c1 : Nat) (xs : List Int)  (w : World) (h1 : w.cell? ⟨sb, 0, none⟩ = some (.slice (some a1) n1 c1)) (h2 : w.cell? ⟨sb, 1, none⟩ = some (.slice none 0 0))
    (g1 : IntsIn w w.heap.size (some a1) xs) (l1 : n1 = xs.length)  (hl : n1 + 0 ≤ 1000) :
    Calls Try.prog 76 #[.slice (some ⟨sb, 0, none⟩) 2 2] w (GotInts w (xs)) := by
  obtain ⟨i0, hi0, hz0, hz1, hz2⟩ := info_parts int_info
  have hsb := World.block_lt_of_cell? w _ h1
  have L1 := Lib.hid l1
  clear l1

  go_enter Try.func76, Try.ntmps76
  go_wp2_with fail
  refine wp_loop_rounds 3 ?_
  rw [rounds_succ]
  go_wp2_with fail
  rw [rounds_succ]
  go_wp2_with fail
  rw [rounds_succ]
  go_wp2_with fail
  
  refine (growI_any n1 w (by omega)).mono ?_
  rintro e1 w1 ⟨A, c, rfl, hown, hb⟩
  have G1 := g1.below hb (Nat.le_refl _)
  clear g1

  have k1 : w1.cell? ⟨sb, 0, none⟩ = some (.slice (some a1) n1 c1) := (hb.cell (p := ⟨sb, 0, none⟩) hsb).trans h1
  have k2 : w1.cell? ⟨sb, 1, none⟩ = some (.slice none 0 0) := (hb.cell (p := ⟨sb, 1, none⟩) hsb).trans h2
  have hsz := hb.size
  clear h1 h2
  go_wp2_with fail
  refine wp_loop_rounds 3 ?_
  rw [rounds_succ]
  go_wp2_with (at_builtin; refine wpList_append_own _ rfl (.tmp 31) (.tmp 32) 23 rfl w.heap.size 3 i0 _ 1 8 Try.underlying23 hi0 hz0 hz1 hz2 rfl (by omega) (.slice A 0 c) 0 (ints []) rfl hown a1 n1 c1 (ints xs) rfl (by rw [ints_length, L1.out, Nat.mul_one]) (cellsI G1) (ints_one xs) (by simp [maxLen]; omega) (by omega) hsz ?_; intro v5 w5 hown5 hgrow5 _)
  have hb5 : Below w.heap.size w1 w5 := (Below.refl _ _).grown hgrow5 hsz (fun k hk => (World.ownsRow.lt hown k hk).1)
  have k1 := (hb5.cell (p := ⟨sb, 0, none⟩) hsb).trans k1
  have k2 := (hb5.cell (p := ⟨sb, 1, none⟩) hsb).trans k2
  have hsz5 := Nat.le_trans hsz hb5.size
  rw [rounds_succ]
  go_wp2_with (at_builtin; refine wpList_append_own_none rfl (.tmp 31) (.tmp 32) 23 rfl w.heap.size 3 i0 1 Try.underlying23 hi0 (v5) (0 + n1) (ints [] ++ ints xs) rfl hown5 rfl ?_)
  rw [rounds_succ]
  go_wp2_with fail
  go_returns
  have hO : OwnI w5 w.heap.size v5 (xs) := by
    unfold OwnI
    rw [← L1.out]
    simpa [ints] using hown5
  have hbel := hb.trans hb5
  rcases hO.form with ⟨rfl, he⟩ | ⟨g, cc, rfl, _⟩
  · rw [he] at hO ⊢
    exact ⟨none, 0, rfl, hO, hbel⟩
  · exact ⟨_, _, rfl, hO, hbel⟩

set_option maxHeartbeats 1000000 in
theorem concatI_ns (sb : Nat) (a2 : Addr) (n2 c2 : Nat) (ys : List Int) (w : World) (h1 : w.cell? ⟨sb, 0, none⟩ = some (.slice none 0 0)) (h2 : w.cell? ⟨sb, 1, none⟩ = some (.slice (some a2) n2 c2))
    (g2 : IntsIn w w.heap.size (some a2) ys) (l2 : n2 = ys.length) (hl : 0 + n2 ≤ 1000) :
    Calls Try.prog 76 #[.slice (some ⟨sb, 0, none⟩) 2 2] w (GotInts w (ys)) := by
  obtain ⟨i0, hi0, hz0, hz1, hz2⟩ := info_parts int_info
  have hsb := World.block_lt_of_cell? w _ h1
  have L2 := Lib.hid l2
  clear l2
  go_enter Try.func76, Try.ntmps76
  go_wp2_with fail
  refine wp_loop_rounds 3 ?_
  rw [rounds_succ]
  go_wp2_with fail
  rw [rounds_succ]
  go_wp2_with fail
  rw [rounds_succ]
  go_wp2_with fail
  
  refine (growI_any n2 w (by omega)).mono ?_
  rintro e1 w1 ⟨A, c, rfl, hown, hb⟩
  have G2 := g2.below hb (Nat.le_refl _)
  clear g2
  have k1 : w1.cell? ⟨sb, 0, none⟩ = some (.slice none 0 0) := (hb.cell (p := ⟨sb, 0, none⟩) hsb).trans h1
  have k2 : w1.cell? ⟨sb, 1, none⟩ = some (.slice (some a2) n2 c2) := (hb.cell (p := ⟨sb, 1, none⟩) hsb).trans h2
  have hsz := hb.size
  clear h1 h2
  go_wp2_with fail
  refine wp_loop_rounds 3 ?_
  rw [rounds_succ]
  go_wp2_with (at_builtin; refine wpList_append_own_none rfl (.tmp 31) (.tmp 32) 23 rfl w.heap.size 3 i0 1 Try.underlying23 hi0 (.slice A 0 c) 0 (ints []) rfl hown rfl ?_)
  rw [rounds_succ]
  go_wp2_with (at_builtin; refine wpList_append_own _ rfl (.tmp 31) (.tmp 32) 23 rfl w.heap.size 3 i0 _ 1 8 Try.underlying23 hi0 hz0 hz1 hz2 rfl (by omega) (.slice A 0 c) 0 (ints []) rfl hown a2 n2 c2 (ints ys) rfl (by rw [ints_length, L2.out, Nat.mul_one]) (cellsI G2) (ints_one ys) (by simp [maxLen]; omega) (by omega) hsz ?_; intro v6 w6 hown6 hgrow6 _)
  have hb6 : Below w.heap.size w1 w6 := (Below.refl _ _).grown hgrow6 hsz (fun k hk => (World.ownsRow.lt hown k hk).1)
  rw [rounds_succ]
  go_wp2_with fail
  go_returns
  have hO : OwnI w6 w.heap.size v6 (ys) := by
    unfold OwnI
    rw [← L2.out]
    simpa [ints] using hown6
  have hbel := hb.trans hb6
  rcases hO.form with ⟨rfl, he⟩ | ⟨g, cc, rfl, _⟩
  · rw [he] at hO ⊢
    exact ⟨none, 0, rfl, hO, hbel⟩
  · exact ⟨_, _, rfl, hO, hbel⟩

set_option maxHeartbeats 1000000 in
theorem concatI_nn (sb : Nat)  (w : World) (h1 : w.cell? ⟨sb, 0, none⟩ = some (.slice none 0 0)) (h2 : w.cell? ⟨sb, 1, none⟩ = some (.slice none 0 0))
     (hl : 0 + 0 ≤ 1000) :
    Calls Try.prog 76 #[.slice (some ⟨sb, 0, none⟩) 2 2] w (GotInts w (([] : List Int))) := by
  obtain ⟨i0, hi0, hz0, hz1, hz2⟩ := info_parts int_info
  have hsb := World.block_lt_of_cell? w _ h1

  go_enter Try.func76, Try.ntmps76
  go_wp2_with fail
  refine wp_loop_rounds 3 ?_
  rw [rounds_succ]
  go_wp2_with fail
  rw [rounds_succ]
  go_wp2_with fail
  rw [rounds_succ]
  go_wp2_with fail
  
  refine (growI_any 0 w (by omega)).mono ?_
  rintro e1 w1 ⟨A, c, rfl, hown, hb⟩

  have k1 : w1.cell? ⟨sb, 0, none⟩ = some (.slice none 0 0) := (hb.cell (p := ⟨sb, 0, none⟩) hsb).trans h1
  have k2 : w1.cell? ⟨sb, 1, none⟩ = some (.slice none 0 0) := (hb.cell (p := ⟨sb, 1, none⟩) hsb).trans h2
  have hsz := hb.size
  clear h1 h2
  go_wp2_with fail
  refine wp_loop_rounds 3 ?_
  rw [rounds_succ]
  go_wp2_with (at_builtin; refine wpList_append_own_none rfl (.tmp 31) (.tmp 32) 23 rfl w.heap.size 3 i0 1 Try.underlying23 hi0 (.slice A 0 c) 0 (ints []) rfl hown rfl ?_)
  rw [rounds_succ]
  go_wp2_with (at_builtin; refine wpList_append_own_none rfl (.tmp 31) (.tmp 32) 23 rfl w.heap.size 3 i0 1 Try.underlying23 hi0 (.slice A 0 c) 0 (ints []) rfl hown rfl ?_)
  rw [rounds_succ]
  go_wp2_with fail
  go_returns
  exact ⟨A, c, rfl, hown, hb⟩

/-- A slice value that is nil has no room. -/
def NilOk (A : Option Addr) (n c : Nat) : Prop := A = none → n = 0 ∧ c = 0
theorem concatI_any (sb : Nat) (A B : Option Addr) (n1 c1 n2 c2 : Nat) (xs ys : List Int) (w : World) (h1 : w.cell? ⟨sb, 0, none⟩ = some (.slice A n1 c1)) (h2 : w.cell? ⟨sb, 1, none⟩ = some (.slice B n2 c2))
    (g1 : IntsIn w w.heap.size A xs) (l1 : n1 = xs.length) (g2 : IntsIn w w.heap.size B ys) (l2 : n2 = ys.length) (k1 : NilOk A n1 c1) (k2 : NilOk B n2 c2) (hl : n1 + n2 ≤ 1000) :
    Calls Try.prog 76 #[.slice (some ⟨sb, 0, none⟩) 2 2] w (GotInts w (xs ++ ys)) := by
  cases A with
  | none =>
    obtain ⟨rfl, rfl⟩ := k1 rfl
    obtain rfl : xs = [] := List.eq_nil_of_length_eq_zero l1.symm
    cases B with
    | none =>
      obtain ⟨rfl, rfl⟩ := k2 rfl
      obtain rfl : ys = [] := List.eq_nil_of_length_eq_zero l2.symm
      rw [List.append_nil]; exact concatI_nn sb w h1 h2 hl
    | some a2 => rw [List.nil_append]; exact concatI_ns sb a2 n2 c2 ys w h1 h2 g2 l2 hl
  | some a1 =>
    cases B with
    | none =>
      obtain ⟨rfl, rfl⟩ := k2 rfl
      obtain rfl : ys = [] := List.eq_nil_of_length_eq_zero l2.symm
      rw [List.append_nil]; exact concatI_sn sb a1 n1 c1 xs w h1 h2 g1 l1 hl
    | some a2 => exact concatI_ss sb a1 n1 c1 xs a2 n2 c2 ys w h1 h2 g1 l1 g2 l2 hl
end Go.Proofs.Ytmdmmebekicpkaa
