/- The array of pieces in memory, and headOf, join and count on it. -/
import Derived.Test.YtdacfeebidhgnaaCounts
import Derived.Test.YtdacfeebidhgnaaEdgesAt
import Derived.Laws.OwnMore
import Derived.LoopTactic
import Derived.RegionTactic
import Derived.BigRegion
import Derived.Deep.RegionWith
namespace Go.Proofs.Ytdacfeebidhgnaa
open Go.RowKit
set_option maxRecDepth 100000

def rowN (p : Nat → Nat) (n : Nat) : List Value := (List.range n).map fun x => .int .i64 (p x : Nat)
def upd (p : Nat → Nat) (k v : Nat) (x : Nat) : Nat := if x = k then v else p x
theorem rowN_get (p : Nat → Nat) {n k : Nat} (h : k < n) : (rowN p n)[k]? = some (.int .i64 (p k : Nat)) := by simp [rowN, h]
theorem rowN_length (p : Nat → Nat) (n : Nat) : (rowN p n).length = n := by simp [rowN]
theorem rowN_set (p : Nat → Nat) (n k v : Nat) : (rowN p n).set k (.int .i64 (v : Nat)) = rowN (upd p k v) n := by
  apply List.ext_getElem?
  intro j
  simp only [rowN, List.getElem?_set, List.getElem?_map, List.length_map, List.length_range, upd]
  by_cases h : k = j
  · subst h
    by_cases hk : k < n
    · simp [hk]
    · simp [hk]
  · rw [if_neg h]
    by_cases hj : j < n
    · simp [hj, show ¬ j = k from fun e => h e.symm]
    · simp [hj]
theorem rowN_congr {p q : Nat → Nat} {n : Nat} (h : ∀ x, x < n → p x = q x) : rowN p n = rowN q n := by
  unfold rowN
  apply List.map_congr_left
  intro x hx
  rw [h x (by simpa using hx)]

/-- Block g, of the call's own from block 'base' on, holds the array p. -/
def Arr (w : World) (base g : Nat) (p : Nat → Nat) : Prop := w.ownsRow base 81 1 (.slice (some ⟨g, 0, none⟩) 7 7) 7 (rowN p 7)
theorem Arr.cell {w : World} {base g : Nat} {p : Nat → Nat} (h : Arr w base g p) {k : Nat} (hk : k < 7) : w.cell? ⟨g, k, none⟩ = some (.int .i64 (p k : Nat)) :=
  (World.ownsRow.cellAt h k (by omega)).trans (rowN_get p hk)
theorem Arr.frozen {w : World} {base g : Nat} {p : Nat → Nat} (h : Arr w base g p) (k : Nat) : w.frozen? ⟨g, k, none⟩ = false := World.ownsRow.frozenAt h k
theorem Arr.store {w : World} {base g : Nat} {p : Nat → Nat} (h : Arr w base g p) (k v : Nat) : Arr (w.setCell ⟨g, k, none⟩ (.int .i64 (v : Nat))) base g (upd p k v) := by
  have h1 := (World.ownsRow.stored h k (.int .i64 (v : Nat))).1
  unfold Arr
  rw [← rowN_set]; exact h1
theorem Arr.ge {w : World} {base g : Nat} {p : Nat → Nat} (h : Arr w base g p) : base ≤ g := (World.ownsRow.lt h g rfl).1
theorem Arr.lt {w : World} {base g : Nat} {p : Nat → Nat} (h : Arr w base g p) : g < w.heap.size := (World.ownsRow.lt h g rfl).2
theorem Arr.below {w w' : World} {base B g : Nat} {p : Nat → Nat} (h : Arr w base g p) (hb : Below B w w') (hB : g < B) : Arr w' base g p := by
  rcases h.2 with ⟨hv, _⟩ | ⟨g', cap, cur, hv, hb', hh, h3, h4, h5, h6⟩
  · cases hv
  · have hg : g' = g := by injection hv with h1 _ _; injection h1 with h1; injection h1 with h1; exact h1.symm
    subst hg
    exact ⟨h.1, .inr ⟨g', cap, cur, hv, hb', (hb.block g' hB).trans hh, h3, h4, h5, h6⟩⟩
theorem Arr.drewN {w : World} {base g : Nat} {p : Nat → Nat} (h : Arr w base g p) (n : Nat) : Arr (w.drewN n) base g p := h.below (belowN (Below.refl (g + 1) w) n) (by omega)
theorem Arr.drew {w : World} {base g : Nat} {p : Nat → Nat} (h : Arr w base g p) : Arr w.drew base g p := h.below ((Below.refl (g + 1) w).drew) (by omega)

/-- The array as a value, and as a new block. -/
def arrC (q : Nat → Nat) : Array Value := #[.int .i64 (q 0 : Nat), .int .i64 (q 1 : Nat), .int .i64 (q 2 : Nat), .int .i64 (q 3 : Nat), .int .i64 (q 4 : Nat), .int .i64 (q 5 : Nat), .int .i64 (q 6 : Nat)]
theorem Arr.box (w : World) {base : Nat} (q : Nat → Nat) (hb : base ≤ w.heap.size) : Arr (w.alloc (.cells (arrC q) 81)) base w.heap.size q :=
  ⟨rowN_length q 7, .inr ⟨w.heap.size, 7, arrC q, rfl, hb, heap_alloc_new w _, Nat.le_refl _, by decide, rfl, rfl⟩⟩

/-- R tells for each node the one at the end of its way over p; d is less the further one goes. -/
structure Forest (p R d : Nat → Nat) : Prop where
  small : ∀ x, x < 7 → p x < 7
  down : ∀ x, x < 7 → p x ≠ x → d (p x) < d x
  same : ∀ x, x < 7 → R (p x) = R x
  fix : ∀ x, x < 7 → p x = x → R x = x
  root : ∀ x, x < 7 → R x < 7 ∧ p (R x) = R x
theorem Forest.start {p : Nat → Nat} (h : ∀ x, x < 7 → p x = x) : Forest p (fun x => x) (fun _ => 0) :=
  ⟨fun x hx => by rw [h x hx]; exact hx, fun x hx h1 => absurd (h x hx) h1, fun x hx => h x hx, fun _ _ _ => rfl, fun x hx => ⟨hx, h x hx⟩⟩
theorem Forest.step {p R d : Nat → Nat} (h : Forest p R d) {y : Nat} (hy : y < 7) (hne : p y ≠ y) :
    Forest (upd p y (p (p y))) R d ∧ d (p (p y)) < d y ∧ R (p (p y)) = R y ∧ p (p y) < 7 := by
  have h1 := h.small y hy
  have h2 := h.small _ h1
  have h3 := h.down y hy hne
  have h4 : d (p (p y)) < d y := by
    by_cases e : p (p y) = p y
    · rw [e]; exact h3
    · have := h.down _ h1 e; omega
  have h5 : R (p (p y)) = R y := (h.same _ h1).trans (h.same y hy)
  refine ⟨⟨?_, ?_, ?_, ?_, ?_⟩, h4, h5, h2⟩
  · intro x hx; unfold upd; split
    · exact h2
    · exact h.small x hx
  · intro x hx; unfold upd; split
    · rename_i e; subst e; intro _; exact h4
    · exact h.down x hx
  · intro x hx; unfold upd; split
    · rename_i e; subst e; exact h5
    · exact h.same x hx
  · intro x hx; unfold upd; split
    · rename_i e; subst e; intro e; rw [e] at h4; omega
    · exact h.fix x hx
  · intro x hx
    refine ⟨(h.root x hx).1, ?_⟩
    unfold upd; split
    · rename_i e; have := (h.root x hx).2; rw [e] at this; exact absurd this hne
    · exact (h.root x hx).2
theorem Forest.idem {p R d : Nat → Nat} (h : Forest p R d) {x : Nat} (hx : x < 7) : R (R x) = R x := h.fix _ (h.root x hx).1 (h.root x hx).2
theorem Forest.join {p R d : Nat → Nat} (h : Forest p R d) {a b : Nat} (ha : a < 7) (hb : b < 7) :
    Forest (upd p (R b) (R a)) (glue R a b) (fun x => if R x = R b then d x + d (R a) + 1 else d x) := by
  have ra := h.root a ha
  have rb := h.root b hb
  have ia := h.idem ha
  have ib := h.idem hb
  refine ⟨?_, ?_, ?_, ?_, ?_⟩
  · intro x hx; unfold upd; split
    · exact ra.1
    · exact h.small x hx
  · intro x hx; unfold upd; split
    · rename_i e; subst e
      intro hne
      rw [if_pos ib]
      by_cases e : R (R a) = R b
      · rw [ia] at e; exact absurd e hne
      · rw [if_neg e]; omega
    · intro hne
      have := h.down x hx hne
      simp only [h.same x hx]
      split <;> omega
  · intro x hx; unfold upd glue; split
    · rename_i e; subst e
      rw [if_pos ib, ia]; split <;> rfl
    · rw [h.same x hx]
  · intro x hx; unfold upd glue; split
    · rename_i e; subst e; intro e; rw [if_pos ib]; exact e
    · intro e
      have hf := h.fix x hx e
      rename_i hne
      by_cases e2 : R x = R b
      · rw [hf] at e2; exact absurd e2 hne
      · rw [if_neg e2]; exact hf
  · intro x hx; unfold glue; split
    · refine ⟨ra.1, ?_⟩
      unfold upd; split
      · rfl
      · exact ra.2
    · refine ⟨(h.root x hx).1, ?_⟩
      unfold upd; rename_i hne; rw [if_neg hne]; exact (h.root x hx).2
theorem Forest.iff {p R d : Nat → Nat} (h : Forest p R d) {x : Nat} (hx : x < 7) : p x = x ↔ R x = x :=
  ⟨h.fix x hx, fun e => by have := (h.root x hx).2; rw [e] at this; exact this⟩

theorem headOf_any (g x base : Nat) (p R d : Nat → Nat) (w : World) (hA : Arr w base g p) (hF : Forest p R d) (hx : x < 7) :
    Calls Try.prog 145 #[.pointer (some ⟨g, 0, none⟩), .int .i64 (x : Nat)] w fun e w' => e = .returned (.int .i64 (R x : Nat)) ∧ Below g w w' ∧ ∃ q, Arr w' base g q ∧ Forest q R d := by
  go_enter Try.func145, Try.ntmps145
  go_wp2
  go_loopw [1] (fun t wr => ∃ (y : Nat) (q : Nat → Nat), y < 7 ∧ Hid (R y = R x) ∧ t = .int .i64 (y : Nat) ∧ Arr wr base g q ∧ Forest q R d ∧ Below g w wr) (fun t _ => d (intOf t).toNat)
  case atStart => exact ⟨x, p, hx, rfl, rfl, hA, hF, Below.refl _ _⟩
  case round =>
    obtain ⟨y, q, hy, hR, rfl, A, F, B⟩ := hrel
    have c0 := A.cell hy
    have f0 := A.frozen y
    have hy1 := F.small y hy
    by_cases hq : q y = y
    · have hq' : (q y : Int) = y := by omega
      go_wp2
      go_ret
      exact ⟨by rw [← hR.out, F.fix y hy hq]; rfl, B, q, A, F⟩
    · have hq' : ¬ (q y : Int) = y := by omega
      obtain ⟨F2, hd, hR2, hy2⟩ := F.step hy hq
      have c1 := A.cell hy1
      have HD := Lib.hid hd
      have HR2 := Lib.hid hR2
      have A2 := (A.store y (q (q y))).drew
      have B2 : Below g w (wr.setCell ⟨g, y, none⟩ (.int .i64 (q (q y) : Nat))).drew := (B.setCell (Nat.le_refl _) _).drew
      clear hd hR2 hF
      generalize hz : q y = z at *
      generalize hz2 : q z = z2 at *
      go_wp2
      go_region
      go_wp2
      go_roundw
      case rel => exact ⟨z2, upd q y z2, hy2, HR2.out.trans hR.out, rfl, A2, F2, B2⟩
      case measure => simpa [intOf] using HD.out

theorem count_any (g base n : Nat) (p R d : Nat → Nat) (w : World) (hA : Arr w base g p) (hF : Forest p R d) (hn : n ≤ 6) :
    Calls Try.prog 111 #[.pointer (some ⟨g, 0, none⟩), .int .i64 (n : Nat)] w fun e w' => e = .returned (.int .i64 (cnt R n : Nat)) ∧ w = w' := by
  go_enter Try.func111, Try.ntmps111
  go_wp2
  go_loop [5, 6] (fun c t => ∃ k : Nat, k ≤ n ∧ c = .int .i64 (cnt R k : Nat) ∧ t = .int .i64 (k + 1 : Nat)) (fun _ t => n + 1 - (intOf t).toNat)
  case atStart => exact ⟨0, by omega, rfl, rfl⟩
  case round =>
    obtain ⟨k, hk, rfl, rfl⟩ := hrel
    have hle := cnt_le R k
    by_cases hlt : k < n
    · have c0 := hA.cell (show k + 1 < 7 by omega)
      have hsm := hF.small (k + 1) (by omega)
      have hiff := hF.iff (show k + 1 < 7 by omega)
      have hst : Hid (cnt R (k + 1) = cnt R k + if R (k + 1) = k + 1 then 1 else 0) := rfl
      by_cases hq : p (k + 1) = k + 1
      · have hq' : (p (k + 1) : Int) = (k : Int) + 1 := by omega
        have hR := hiff.1 hq
        generalize p (k + 1) = z at *
        generalize hc : cnt R (k + 1) = c1 at *
        go_wp2
        go_round
        case rel => exact ⟨k + 1, by omega, by have := hst.out; rw [if_pos hR] at this; rw [hc, this]; go_num, by go_num⟩
        case measure => simp [intOf]; omega
      · have hq' : ¬ (p (k + 1) : Int) = (k : Int) + 1 := by omega
        have hR := fun e => hq (hiff.2 e)
        generalize p (k + 1) = z at *
        generalize hc : cnt R (k + 1) = c1 at *
        go_wp2
        go_round
        case rel => exact ⟨k + 1, by omega, by have := hst.out; rw [if_neg hR] at this; rw [hc, this]; go_num, by go_num⟩
        case measure => simp [intOf]; omega
    · obtain rfl : k = n := by omega
      go_wp2
      go_ret
      exact ⟨rfl, rfl⟩

/-- Some array over which R tells the ways' ends. -/
def Way (w : World) (base g : Nat) (R : Nat → Nat) (u : World) : Prop := Below g w u ∧ ∃ q d, Arr u base g q ∧ Forest q R d
theorem Way.head {w u : World} {base g : Nat} {R : Nat → Nat} (h : Way w base g R u) {x : Nat} (hx : x < 7) :
    Calls Try.prog 145 #[.pointer (some ⟨g, 0, none⟩), .int .i64 (x : Nat)] u fun e w' => e = .returned (.int .i64 (R x : Nat)) ∧ Way w base g R w' := by
  obtain ⟨hb, q, d, hA, hF⟩ := h
  refine (headOf_any g x base q R d u hA hF hx).mono ?_
  rintro e w' ⟨rfl, B, q', A, F⟩
  exact ⟨rfl, hb.trans B, q', d, A, F⟩

theorem Way.alloc {w u : World} {base g : Nat} {R : Nat → Nat} (h : Way w base g R u) (o : Obj) : Way w base g R (u.alloc o) := by
  obtain ⟨hb, q, d, hA, hF⟩ := h
  have := hA.lt
  exact ⟨hb.alloc (by omega) o, q, d, hA.below ((Below.refl (g + 1) u).alloc (by omega) o) (by omega), hF⟩

theorem join_any (g a b base : Nat) (R : Nat → Nat) (w w0 : World) (hW : Way w0 base g R w) (ha : a < 7) (hb : b < 7) :
    Calls Try.prog 129 #[.pointer (some ⟨g, 0, none⟩), .int .i64 (a : Nat), .int .i64 (b : Nat)] w fun e w' => e = .returned (.tuple #[]) ∧ Way w0 base g (glue R a b) w' := by
  have hD : Way w0 base g R w.drew := by
    obtain ⟨hb, q, d, hA, hF⟩ := hW
    exact ⟨hb.drew, q, d, hA.drew, hF⟩
  go_enter Try.func129, Try.ntmps129
  go_wp2
  go_region_with (first | (go_at_call_of 145 (b : Int); refine (hD.head hb).mono ?_; rintro e1 w1 ⟨rfl, D1⟩) | (go_at_call_of 145 (a : Int); refine (D1.head ha).mono ?_; rintro e2 w2 ⟨rfl, B2, q2, d2, A2, F2⟩; have hrb := (F2.root b hb).1; have hf2 := A2.frozen (R b); have c2 := A2.cell hrb))
  have W2 : Way w0 base g (glue R a b) (w2.setCell ⟨g, R b, none⟩ (.int .i64 (R a : Nat))) := ⟨B2.setCell (Nat.le_refl _) _, _, _, A2.store (R b) (R a), F2.join ha hb⟩
  go_wp2
  go_end0
  exact ⟨rfl, W2⟩

theorem together_any (g a b base : Nat) (R : Nat → Nat) (w w0 : World) (hW : Way w0 base g R w) (ha : a < 7) (hb : b < 7) :
    Calls Try.prog 126 #[.pointer (some ⟨g, 0, none⟩), .int .i64 (a : Nat), .int .i64 (b : Nat)] w fun e w' => e = .returned (.bool (decide (R a = R b))) ∧ Way w0 base g R w' := by
  go_enter Try.func126, Try.ntmps126
  go_wp2_with fail
  refine (hW.head ha).mono ?_
  rintro e1 w1 ⟨rfl, W1⟩
  go_wp2_with fail
  refine (W1.head hb).mono ?_
  rintro e2 w2 ⟨rfl, W2⟩
  go_wp2_with fail
  go_returns
  refine ⟨retB ?_, W2⟩
  rw [Bool.eq_iff_iff]
  first | (simp; done) | (simp; omega)
end Go.Proofs.Ytdacfeebidhgnaa
