/- Grids of the reference: LeadsOk, PassesOk, CountLeads. -/
import Derived.Test.YtcmomghlepmogaaDoorSpec7d
import Derived.Test.YtcmomghlepmogaaDoorSpecCnt
namespace Go.Proofs.YtcmomghlepmogaaDoor
open Go.RowKit
set_option maxRecDepth 100000

theorem RRows.congr {u : World} {base : Nat} {OA : Option Addr} {k oc m : Nat} {F F' : Nat → List Int} (h : RRows u base OA k oc m F) (he : ∀ j, j < k → F j = F' j) : RRows u base OA k oc m F' := by
  obtain ⟨vs, hl, ho, hr⟩ := h
  refine ⟨vs, hl, ho, fun j hj => ?_⟩
  obtain ⟨b, c, h1, h2, h3, h4, h5⟩ := hr j hj
  exact ⟨b, c, h1, h2, h3, h4, by rw [← he j hj]; exact h5⟩
theorem RRows.empty (w : World) (base m : Nat) (F : Nat → List Int) (hb : base ≤ w.heap.size) : RRows (w.alloc (.cells #[] 31)) base (some ⟨w.heap.size, 0, none⟩) 0 0 m F :=
  ⟨[], rfl, ⟨rfl, .inr ⟨w.heap.size, 0, #[], rfl, hb, heap_alloc_new w _, Nat.le_refl _, by decide, rfl, rfl⟩⟩, fun j hj => by omega⟩
/-- What stands in the loops: the row of what is reached, and the row of pairs. -/
structure PairSt (w u : World) (gd n c D : Nat) (OA : Option Addr) (oc : Nat) (ps : List (Nat × Nat)) : Prop where
  own : OwnB u w.heap.size gd n c D
  rows : RRows u (gd + 1) OA ps.length oc 2 (pairF ps)
  bel : Below w.heap.size w u
theorem pairF_more {ps : List (Nat × Nat)} {e : Nat × Nat} {j : Nat} (hj : j < ps.length) : pairF ps j = pairF (ps ++ [e]) j := by
  unfold pairF
  have : (ps ++ [e]).getD j (0, 0) = ps.getD j (0, 0) := by simp [List.getD, List.getElem?_append_left hj]
  rw [this]
theorem pairF_last {ps : List (Nat × Nat)} {a b : Nat} : pairF (ps ++ [(a, b)]) ps.length = [(a : Int), (b : Int)] := by
  unfold pairF
  have : (ps ++ [(a, b)]).getD ps.length (0, 0) = (a, b) := by simp [List.getD]
  rw [this]
/-- A pair more: two cells for it, one for its row, and the longer row of rows. -/
theorem PairSt.push {w u w5 : World} {gd n c D k : Nat} {OA : Option Addr} {oc gg cc : Nat} {ps : List (Nat × Nat)} {a b : Nat} {vs : List Value} {T T' : TypeId} (hk : ps.length = k)
    (own : OwnB u w.heap.size gd n c D) (bel : Below w.heap.size w u) (hl : vs.length = k) (ho : u.ownsRow (gd + 1) 31 1 (.slice OA k oc) k vs)
    (hr : ∀ j, j < k → ∃ b c, vs[j]? = some (.slice (some ⟨b, 0, none⟩) 2 c) ∧ gd + 1 ≤ b ∧ (Value.slice OA k oc).ownBlock ≠ some b ∧ b < u.heap.size ∧ IntsIn u u.heap.size (some ⟨b, 0, none⟩) (pairF ps j))
    (hown : w5.ownsRow (gd + 1) 31 1 (.slice (some ⟨gg, 0, none⟩) (k + 1) cc) (k + 1) (vs ++ [.slice (some ⟨u.heap.size, 0, none⟩) 2 2]))
    (hg : ((u.alloc (.cells #[.int .i64 (a : Nat), .int .i64 (b : Nat)] T')).alloc (.cells #[.slice (some ⟨u.heap.size, 0, none⟩) 2 2] T)).grownBy w5 (Value.slice OA k oc).ownBlock)
    (hat : (Value.slice OA k oc).ownBlock = some gg ∨ gg = ((u.alloc (.cells #[.int .i64 (a : Nat), .int .i64 (b : Nat)] T')).alloc (.cells #[.slice (some ⟨u.heap.size, 0, none⟩) 2 2] T)).heap.size) :
    PairSt w w5 gd n c D (some ⟨gg, 0, none⟩) cc (ps ++ [(a, b)]) := by
  subst hk
  have hgd := own.lt
  have hA := (Below.refl u.heap.size u).alloc (Nat.le_refl _) (.cells #[.int .i64 (a : Nat), .int .i64 (b : Nat)] T')
  have hob := fun j hj => (World.ownsRow.lt ho j hj)
  have own4 := own.next hA
  have hs4 : (u.alloc (.cells #[.int .i64 (a : Nat), .int .i64 (b : Nat)] T')).heap.size = u.heap.size + 1 := by simp
  have i4 : IntsIn (u.alloc (.cells #[.int .i64 (a : Nat), .int .i64 (b : Nat)] T')) (u.alloc (.cells #[.int .i64 (a : Nat), .int .i64 (b : Nat)] T')).heap.size (some ⟨u.heap.size, 0, none⟩) (pairF (ps ++ [(a, b)]) ps.length) := by
    rw [pairF_last]
    intro k x hk
    have hk2 : k < 2 := (List.getElem?_eq_some_iff.1 hk).1
    refine ⟨u.heap.size, 0, rfl, by omega, ?_⟩
    rw [World.cell?_alloc_at _ _ _ _ rfl]
    rcases (show k = 0 ∨ k = 1 by omega) with rfl | rfl <;> simp at hk <;> subst hk <;> rfl
  have R := rows_grow (w4 := u.alloc (.cells #[.int .i64 (a : Nat), .int .i64 (b : Nat)] T')) (cc := cc) (F := pairF (ps ++ [(a, b)])) (k4 := 2) (g4 := u.heap.size) (T := T) (ownsRow_next ho hA) hl
    (fun j hj => by
      obtain ⟨b', c', h1, h2, h3, h4, h5⟩ := hr j hj
      exact ⟨b', c', h1, h2, h3, by omega, by rw [← pairF_more hj]; exact (h5.below hA (Nat.le_refl _)).more (by omega)⟩)
    (fun j hj => (hob j hj).2) (by omega) (by omega) i4 hown hg hat
  refine ⟨?_, by rw [List.length_append]; exact R, ?_⟩
  · have hB := (Below.refl _ _).alloc (Nat.le_refl _) (.cells #[.slice (some ⟨u.heap.size, 0, none⟩) 2 2] T) (w := u.alloc (.cells #[.int .i64 (a : Nat), .int .i64 (b : Nat)] T')) 
    exact (own4.next hB).grown hg fun e => by have := (hob gd e).1; omega
  · have h1 : Below w.heap.size w ((u.alloc (.cells #[.int .i64 (a : Nat), .int .i64 (b : Nat)] T')).alloc (.cells #[.slice (some ⟨u.heap.size, 0, none⟩) 2 2] T)) := (bel.alloc bel.size _).alloc (by have := bel.size; simp; omega) _
    have hge := own.ge
    exact h1.grown hg (by have := bel.size; simp; omega) (fun j hj => by have := (hob j hj).1; omega)

def edgeB (s w h : Int) : Bool := gridOkB w h && inB s ((2 ^ gridE w.toNat h.toNat : Nat) : Int)
def leadsI (s w h : Int) : Bool := edgeB s w h && leadsN w.toNat h.toNat s.toNat
def passesI (s w h : Int) : Bool := edgeB s w h && passesN w.toNat h.toNat s.toNat
theorem col_step : ∀ c, c < 5 → ∀ k, k < 3 → 1 ≤ c → (colL c k ||| 2 ^ (k * c) = colL c (k + 1)) := by decide +kernel
theorem lens_small : ∀ w, w < 5 → ∀ h, h < 4 → w * h ≤ 12 ∧ (w - 1) * (h + 1) ≤ 12 := by decide
theorem cell_len (w h s y x : Nat) : (cellL w h s y x).length ≤ 2 := by
  unfold cellL
  cases c1L w s y x <;> cases c2L w h s y x <;> simp
theorem row_len (w h s y : Nat) : ∀ n, (rowTo w h s y n).length ≤ n * 2
  | 0 => by simp [rowTo]
  | n + 1 => by have := row_len w h s y n; have := cell_len w h s y n; rw [rowTo, List.length_append]; omega
theorem all_len (w h s : Nat) : ∀ n, (allL w h s n).length ≤ n * (w * 2)
  | 0 => by simp [allL]
  | n + 1 => by have := all_len w h s n; have := row_len w h s n w; rw [allL, List.length_append, Nat.add_mul]; omega
theorem cellP_len (w h s y x : Nat) : (cellP w h s x y).length ≤ 2 := by
  unfold cellP
  cases d1L w s x y <;> cases d2L w h s x y <;> simp
theorem colTo_len (w h s x : Nat) : ∀ n, (colTo w h s x n).length ≤ n * 2
  | 0 => by simp [colTo]
  | n + 1 => by have := colTo_len w h s x n; have := cellP_len w h s n x; rw [colTo, List.length_append]; omega
theorem allP_len (w h s : Nat) : ∀ n, (allP w h s n).length ≤ n * (h * 2)
  | 0 => by simp [allP]
  | n + 1 => by have := allP_len w h s n; have := colTo_len w h s n h; rw [allP, List.length_append, Nat.add_mul]; omega
/-- Whether one of the first so many has its bit. -/
def orTo (D : Nat) (f : Nat → Nat) : Nat → Bool
  | 0 => false
  | y + 1 => orTo D f y || D.testBit (f y)
theorem orTo_iff (D : Nat) (f : Nat → Nat) : ∀ n, orTo D f n = true ↔ ∃ y, y < n ∧ D.testBit (f y) = true
  | 0 => by simp [orTo]
  | n + 1 => by
    rw [orTo, Bool.or_eq_true, orTo_iff D f n]
    constructor
    · rintro (⟨y, h1, h2⟩ | h)
      · exact ⟨y, by omega, h2⟩
      · exact ⟨n, by omega, h⟩
    · rintro ⟨y, h1, h2⟩
      by_cases e : y = n
      · subst e; exact .inr h2
      · exact .inl ⟨y, by omega, h2⟩
theorem orTo_mask {D t n : Nat} {f : Nat → Nat} (ht : ∀ i, t.testBit i = true ↔ ∃ y, y < n ∧ i = f y) : (!(D &&& t == 0)) = orTo D f n := by
  rw [Bool.eq_iff_iff, orTo_iff, Bool.not_eq_true', and_zero]
  constructor
  · rintro ⟨i, h1, h2⟩
    obtain ⟨y, hy, rfl⟩ := (ht i).1 h2
    exact ⟨y, hy, h1⟩
  · rintro ⟨y, hy, h1⟩
    exact ⟨f y, h1, (ht _).2 ⟨y, hy, rfl⟩⟩
theorem right_bits {w h : Nat} (hw : 2 ≤ w ∧ w ≤ 4) (hh : 1 ≤ h ∧ h ≤ 3) (i : Nat) : (colR w h).testBit i = true ↔ ∃ y, y < h ∧ i = y * w + w - 1 := by
  have H : ∀ w, w < 5 → ∀ h, h < 4 → 1 ≤ w → colR w h < 2 ^ 12 ∧ ∀ i, i < 12 → ((colR w h).testBit i = true ↔ ∃ y, y < h ∧ i = y * w + w - 1) := by decide +kernel
  obtain ⟨h1, h2⟩ := H w (by omega) h (by omega) (by omega)
  by_cases hi : i < 12
  · exact h2 i hi
  · constructor
    · intro hb; exact absurd (bit_below h1 hb) hi
    · rintro ⟨y, hy, e⟩
      have := (lens_small w (by omega) h (by omega)).1
      have h3 := place_lt (w := w) (h := h) (y := y) (x := w - 1) (by omega) hy
      omega
theorem top_bits {w h : Nat} (hw : 2 ≤ w ∧ w ≤ 4) (hh : 1 ≤ h ∧ h ≤ 3) (i : Nat) : (fdT w h).testBit i = true ↔ ∃ x, x < w - 1 ∧ i = h * (w - 1) + x := by
  have H : ∀ w, w < 5 → ∀ h, h < 4 → fdT w h < 2 ^ 12 ∧ ∀ i, i < 12 → ((fdT w h).testBit i = true ↔ ∃ x, x < w - 1 ∧ i = h * (w - 1) + x) := by decide +kernel
  obtain ⟨h1, h2⟩ := H w (by omega) h (by omega)
  by_cases hi : i < 12
  · exact h2 i hi
  · constructor
    · intro hb; exact absurd (bit_below h1 hb) hi
    · rintro ⟨x, hx, e⟩
      have := (lens_small w (by omega) h (by omega)).2
      have h3 := place_lt (w := w - 1) (h := h + 1) (y := h) (x := x) hx (by omega)
      omega

set_option maxHeartbeats 8000000 in
theorem specLeadsOk_any (s c r : Int) (w : World) : Calls Tryd.prog 12 #[.int .i64 s, .int .i64 c, .int .i64 r] w fun e w' => e = .returned (.bool (leadsI s c r)) ∧ Below w.heap.size w w' := by
  unfold leadsI edgeB
  cases hB : gridOkB c r with
  | false =>
    have HB := Lib.hid hB
    clear hB
    go_enter Tryd.func12, Tryd.ntmps12
    go_wp2_with fail
    refine (specGridOk_any _ _ _).mono ?_
    rintro e1 w1 ⟨rfl, rfl⟩
    rw [HB.out]
    go_wp2_with fail
    go_returns
    exact ⟨rfl, Below.refl _ _⟩
  | true =>
    have HB := Lib.hid hB
    obtain ⟨C, R, rfl, rfl, hc, hr⟩ := grid_nat hB
    obtain ⟨-, E1, E13⟩ := grid_edges hc hr
    have HGE : Hid (∀ u, Calls Tryd.prog 13 #[.int .i64 C, .int .i64 R] u fun e w' => e = .returned (.int .i64 (gridE C R : Nat)) ∧ u = w') := fun u => by
      have h := specGridEdges_any C R u
      have e : gridEI C R = (gridE C R : Nat) := if_pos hB
      rw [e] at h; exact h
    obtain ⟨P, hP, p1, p2, hp3, hp4⟩ := pow_named12 E13
    have wP1 : IntKind.i64.wrap ((P : Int) - 1) = (P : Int) - 1 := IntWalk.i64_in _ (by omega)
    rw [show ((C : Nat) : Int).toNat = C from rfl, show ((R : Nat) : Int).toNat = R from rfl, hP]
    clear hB
    cases hA : inB s P with
    | false =>
      have HA : Hid ((decide (0 ≤ s) && decide (s ≤ (P : Int) - 1)) = false) := hA
      clear hA hP hc hr
      generalize gridE C R = E at *
      go_enter Tryd.func12, Tryd.ntmps12
      go_wp2_with fail
      refine (specGridOk_any _ _ _).mono ?_
      rintro e1 w1 ⟨rfl, rfl⟩
      rw [HB.out]
      go_wp2_with fail
      refine (HGE.out _).mono ?_
      rintro e2 w2 ⟨rfl, rfl⟩
      go_wp2_with fail
      refine (l1In_any _ _ _ _).mono ?_
      rintro e3 w3 ⟨rfl, rfl⟩
      rw [HA.out]
      go_wp2_with fail
      go_returns
      exact ⟨rfl, Below.refl _ _⟩
    | true =>
      have HA : Hid ((decide (0 ≤ s) && decide (s ≤ (P : Int) - 1)) = true) := hA
      obtain ⟨S, rfl, hS⟩ := inB_nat hA
      have hSE : S < 2 ^ gridE C R := by rw [hP]; exact hS
      rw [show ((S : Nat) : Int).toNat = S from rfl]
      have HFIN : Hid (∀ D, Reach (adjP (allL C R S R)) (C * R) (2 ^ (C * R) - 1) (colL C R) D → orTo D (fun y => y * C + C - 1) R = leadsN C R S) := fun D h => by
        rw [← leads_is hc hr hSE (h.congr fun a b _ _ => adj_are (fun a b => pairs_are (by omega)) a b), orTo_mask (right_bits hc hr)]
      have HIN : Hid (∀ a b, (a, b) ∈ allL C R S R → a < C * R ∧ b < C * R) := fun a b h => by
        have sh := pt_shape C (by omega) R (by omega)
        rcases (pairs_are (by omega)).1 h with ⟨h1, h2⟩ | ⟨h1, h2⟩
        · unfold ptH at h1
          rw [maskOf_bit] at h1
          simp only [Bool.and_eq_true, decide_eq_true_eq] at h1
          have := (sh a h1.1).1 h1.2.1
          omega
        · unfold ptV at h1
          rw [maskOf_bit] at h1
          simp only [Bool.and_eq_true, decide_eq_true_eq] at h1
          have := (sh a h1.1).2 h1.2.2.2.1
          omega
      obtain ⟨n, hn, n1, n12, hnI, wn⟩ := prod_small (show 1 ≤ C ∧ C ≤ 4 by omega) hr
      have HCL : Hid (∀ y, y < R → colL C y ||| 2 ^ (y * C) = colL C (y + 1)) := fun y hy => col_step C (by omega) y (by omega) (by omega)
      have hF := (side_shape C (by omega) R (by omega) (by omega)).1
      rw [hn] at HFIN HIN hF
      have HPL : Hid (∀ x y, x < C → y < R → y * C + x < n ∧ (x + 1 < C → y * C + x + 1 < n) ∧ (y + 1 < R → (y + 1) * C + x < n)) := fun x y hx hy =>
        ⟨by rw [← hn]; exact place_lt hx hy, fun h => by rw [← hn, Nat.add_assoc]; exact place_lt h hy, fun h => by rw [← hn]; exact place_lt hx h⟩
      have HN := Lib.hid hn
      have HF := Lib.hid hF
      obtain ⟨v, hv⟩ : ∃ v, leadsN C R S = v := ⟨_, rfl⟩
      rw [hv] at HFIN ⊢
      clear hP hSE hA hF hv hn hnI
      generalize gridE C R = E at *
      obtain ⟨j0, hj0, y0, y1, y2⟩ := info_parts bool_info
      obtain ⟨i0, hi0, hz0, hz1, hz2⟩ := info_parts rows_info
      go_enter Tryd.func12, Tryd.ntmps12
      go_wp2_with fail
      refine (specGridOk_any _ _ _).mono ?_
      rintro e1 w1 ⟨rfl, rfl⟩
      rw [HB.out]
      go_wp2_with fail
      refine (HGE.out _).mono ?_
      rintro e2 w2 ⟨rfl, rfl⟩
      go_wp2_with fail
      refine (l1In_any _ _ _ _).mono ?_
      rintro e3 w3 ⟨rfl, rfl⟩
      rw [HA.out]
      go_wp2_with (at_make; refine wpList_make_full _ rfl _ _ 49 rfl w.heap.size 4 j0 _ 1 Tryd.underlying49 hj0 y0 y1 .i64 .i64 n n n rfl rfl rfl rfl (by rw [y2]; omega) (by simp [maxLen]; omega) (Nat.le_refl _) ?_; intro w4 hown4 hg4)
      have own4 : OwnB w4 w.heap.size w.heap.size n n 0 := by unfold OwnB; rw [← madeCells_bools]; exact hown4
      have bel4 : Below w.heap.size w w4 := (Below.refl _ _).grown hg4 (Nat.le_refl _) (by simp)
      clear hown4 hg4 y0 y1 y2 hj0
      have PS0 : PairSt w (w4.alloc (.cells #[] 31)) w.heap.size n n 0 (some ⟨w4.heap.size, 0, none⟩) 0 [] :=
        ⟨own4.next ((Below.refl _ _).alloc (Nat.le_refl _) _), RRows.empty w4 _ 2 _ (by have := own4.lt; omega), bel4.alloc bel4.size _⟩
      generalize hgd : w.heap.size = gd at *
      clear own4 bel4 HGE wP1 hp3 hp4
      go_wp2_with fail
      go_loopw [8, 9] (fun l y wr => ∃ (Y : Nat) (OA : Option Addr) (oc : Nat), Y ≤ R ∧ y = .int .i64 (Y : Nat) ∧ l = .slice OA (allL C R S Y).length oc ∧ PairSt w wr gd n n (colL C Y) OA oc (allL C R S Y)) (fun _ y _ => R - (intOf y).toNat)
      case atStart => exact ⟨0, _, _, by omega, rfl, rfl, PS0⟩
      case round =>
        clear PS0
        obtain ⟨Y, OA, oc, hY, rfl, rfl, PS⟩ := hrel
        by_cases hlt : Y < R
        · obtain ⟨zz, hzz⟩ : ∃ zz, Y * C = zz := ⟨_, rfl⟩
          have hzn : zz < n := by have := (HPL.out 0 Y (by omega) hlt).1; omega
          have wz : IntKind.i64.wrap ((Y : Int) * (C : Int)) = (zz : Int) := by rw [← Int.natCast_mul, hzz]; exact IntWalk.i64_in _ (by omega)
          have izn : (zz : Int) < (n : Int) := by omega
          obtain ⟨q1, q2⟩ := PS.own.slot hzn
          have PS1 : PairSt w (wr.setCell ⟨gd, zz, none⟩ (.bool true)) gd n n (colL C (Y + 1)) OA oc (allL C R S Y) :=
            ⟨by rw [← HCL.out Y hlt, hzz]; exact PS.own.store zz, rows_far PS.rows (by simp) _, PS.bel.setCell (by simp [hgd]) _⟩
          have HPS1 := Lib.hid PS1
          obtain ⟨AL, hAL⟩ : ∃ AL, allL C R S Y = AL := ⟨_, rfl⟩
          rw [hAL] at HPS1 ⊢
          have hlen := all_len C R S Y
          rw [hAL] at hlen
          have hlen2 : AL.length ≤ 24 := Nat.le_trans hlen (Nat.le_trans (Nat.mul_le_mul (show Y ≤ 3 by omega) (show C * 2 ≤ 8 by omega)) (by decide))
          have HAL : Hid (allL C R S (Y + 1) = AL ++ rowTo C R S Y C) := by rw [Hid, allL, hAL]
          clear PS PS1 hAL hlen
          go_wp2_with fail
          go_loopw [8, 10] (fun l x wr => ∃ (X : Nat) (OA : Option Addr) (oc : Nat), X ≤ C ∧ x = .int .i64 (X : Nat) ∧ l = .slice OA (AL ++ rowTo C R S Y X).length oc ∧ PairSt w wr gd n n (colL C (Y + 1)) OA oc (AL ++ rowTo C R S Y X)) (fun _ x _ => C - (intOf x).toNat)
          case atStart => exact ⟨0, OA, oc, by omega, rfl, by simp [rowTo], by simpa [rowTo] using HPS1.out⟩
          case round =>
            clear HPS1 q1 q2
            obtain ⟨X, OA, oc, hX, rfl, rfl, PS⟩ := hrel
            by_cases hltx : X < C
            · have hlen3 : (AL ++ rowTo C R S Y X).length ≤ 40 := by have := row_len C R S Y X; rw [List.length_append]; omega
              obtain ⟨L1, hL1⟩ : ∃ L1, AL ++ rowTo C R S Y X = L1 := ⟨_, rfl⟩
              obtain ⟨pa, hpa⟩ : ∃ pa, Y * C + X = pa := ⟨_, rfl⟩
              obtain ⟨pa1, hpa1⟩ : ∃ pa1, pa + 1 = pa1 := ⟨_, rfl⟩
              obtain ⟨zy, hzy⟩ : ∃ zy, (Y + 1) * C = zy := ⟨_, rfl⟩
              obtain ⟨pa2, hpa2⟩ : ∃ pa2, zy + X = pa2 := ⟨_, rfl⟩
              have HROW : Hid (∀ v1 v2, c1L C S Y X = v1 → c2L C R S Y X = v2 → AL ++ rowTo C R S Y (X + 1) = (if v2 = true then (if v1 = true then L1 ++ [(pa, pa1)] else L1) ++ [(pa, pa2)] else (if v1 = true then L1 ++ [(pa, pa1)] else L1))) := fun v1 v2 h1 h2 => by
                rw [rowTo, cellL, h1, h2, hpa, hpa1, hzy, hpa2, ← List.append_assoc, hL1]
                cases v1 <;> cases v2 <;> simp
              rw [hL1] at PS hlen3 ⊢
              have hzy12 : zy ≤ 12 := by rw [← hzy]; exact Nat.mul_le_mul (show Y + 1 ≤ 3 by omega) hc.2
              have hpa12 : pa ≤ 16 := by omega
              have wa : IntKind.i64.wrap ((zz : Int) + (X : Int)) = (pa : Int) := by rw [IntWalk.i64_in _ (by omega)]; omega
              have wa1 : IntKind.i64.wrap ((pa : Int) + 1) = (pa1 : Int) := by rw [IntWalk.i64_in _ (by omega)]; omega
              have wy1 : IntKind.i64.wrap ((Y : Int) + 1) = (Y : Int) + 1 := IntWalk.i64_in _ (by omega)
              have wzy : IntKind.i64.wrap (((Y : Int) + 1) * (C : Int)) = (zy : Int) := by rw [show ((Y : Int) + 1) = ((Y + 1 : Nat) : Int) by omega, ← Int.natCast_mul, hzy]; exact IntWalk.i64_in _ (by omega)
              have wa2 : IntKind.i64.wrap ((zy : Int) + (X : Int)) = (pa2 : Int) := by rw [IntWalk.i64_in _ (by omega)]; omega
              have wx1 : IntKind.i64.wrap ((X : Int) + 1) = (X : Int) + 1 := IntWalk.i64_in _ (by omega)
              have hlv0 : Y * (C - 1) ≤ 2 * 3 := Nat.mul_le_mul (by omega) (by omega)
              have hup0 : Y * (C - 2) ≤ 2 * 2 := Nat.mul_le_mul (by omega) (by omega)
              have hup1 : (C - 1) * R ≤ 3 * 3 := Nat.mul_le_mul (by omega) hr.2
              obtain ⟨lv, hlv⟩ : ∃ lv, Y * (C - 1) + X = lv := ⟨_, rfl⟩
              obtain ⟨up, hup⟩ : ∃ up, (C - 1) * R + Y * (C - 2) + X - 1 = up := ⟨_, rfl⟩
              have HLV : Hid (∀ u, Calls Tryd.prog 38 #[.int .i64 X, .int .i64 Y, .int .i64 C] u fun e w' => e = .returned (.int .i64 (lv : Nat)) ∧ u = w') := fun u => l7Level_any X Y C lv hlv (by omega) (by omega) (by omega) u
              have HUP0 : Hid (1 ≤ X → ∀ u, Calls Tryd.prog 39 #[.int .i64 X, .int .i64 Y, .int .i64 C, .int .i64 R] u fun e w' => e = .returned (.int .i64 (up : Nat)) ∧ u = w') := fun h u => l7Upright_any X Y C R up hup (by omega) (by omega) (by omega) (by omega) u
              have hlv13 : lv ≤ 13 := by omega
              have hup13 : up ≤ 20 := by omega
              have C1 : c1L C S Y X = (decide (X + 1 < C) && S.testBit lv) := by unfold c1L; rw [hlv]
              have C2 : c2L C R S Y X = (decide (0 < X) && (decide (X + 1 < C) && (decide (Y + 1 < R) && S.testBit up))) := by unfold c2L; rw [hup]
              have HST := Lib.hid PS
              obtain ⟨k, hk⟩ : ∃ k, L1.length = k := ⟨_, rfl⟩
              have HK := Lib.hid hk
              rw [hk] at hlen3 ⊢
              clear PS hL1 hpa hpa1 hzy hpa2 hlv hup hlv0 hup0 hup1 hk hlen2 hzy12 hzz
              by_cases hx1 : X + 1 < C
              · have ix1 : (X : Int) + 1 < (C : Int) := by omega
                rw [show decide (X + 1 < C) = true by simpa using hx1, Bool.true_and] at C1 C2
                cases hb1 : S.testBit lv with
                | true =>
                  have q1 := tm1 hb1
                  have HC1 : c1L C S Y X = true := by rw [C1]; exact hb1
                  clear C1 hb1
                  by_cases hx0 : X < 1
                  · have ix0 : ¬ (0 : Int) < (X : Int) := by omega
                    have iX0 : ¬ 0 < X := by omega
                    have HC2 : c2L C R S Y X = false := by rw [C2]; simp [show ¬ 0 < X by omega]
                    have HQ : Hid (AL ++ rowTo C R S Y (X + 1) = L1 ++ [(pa, pa1)]) := HROW.out true false HC1 HC2
                    clear C2 HC1 HC2 HROW HUP0
                    go_wp2_with fail
                    refine (HLV.out _).mono ?_
                    rintro e6 w6 ⟨rfl, rfl⟩
                    obtain ⟨vsa, vla, voa, vra⟩ := id HST.out.rows
                    rw [HK.out] at vla voa vra
                    have oba := fun j hj => (World.ownsRow.lt voa j hj)
                    have gdla := HST.out.own.lt
                    go_wp2_with (at_builtin; (refine wpList_append_lies _ rfl (.tmp 60) (.tmp 73) 50 rfl (gd + 1) 31 i0 _ 1 24 Tryd.underlying50 hi0 hz0 hz1 hz2 rfl (by omega) (.slice OA (k) oc) (k) vsa rfl (World.ownsRow.alloc (World.ownsRow.alloc voa _) _) ⟨wr.heap.size + 1, 0, none⟩ 1 1 [.slice (some ⟨wr.heap.size, 0, none⟩) 2 2] rfl rfl (World.news_of_block (cs := #[.slice (some ⟨wr.heap.size, 0, none⟩) 2 2]) (t := 31) (fr := (0, 0)) (by simpa using heap_alloc_new (wr.alloc (.cells #[.int .i64 (pa : Nat), .int .i64 (pa1 : Nat)] 3)) (.cells #[.slice (some ⟨wr.heap.size, 0, none⟩) 2 2] 31))) (by simp [Value.oneCell']) (by omega) (by simp [maxLen]; omega) (by omega) (by simp; omega) _ rfl ?_); intro gga cca w5a hown5a hgrowa hata hlt5a)
                    have HSTa := Lib.hid (PairSt.push (a := pa) (b := pa1) HK.out HST.out.own HST.out.bel vla voa vra hown5a hgrowa hata)
                    clear vla voa vra oba gdla hown5a hgrowa hata hlt5a
                    have HKa : Hid ((L1 ++ [(pa, pa1)]).length = k + 1) := by rw [Hid, List.length_append, HK.out]; rfl
                    go_wp2_with fail
                    go_roundw
                    case rel => exact ⟨X + 1, (some ⟨gga, 0, none⟩), cca, by omega, by go_num, by rw [HQ.out]; simp [HK.out], by rw [HQ.out]; exact HSTa.out⟩
                    case measure => first | (simp [intOf]; done) | (simp [intOf]; omega)

                  · have ix0 : (0 : Int) < (X : Int) := by omega
                    have iX0 : 0 < X := by omega
                    rw [show decide (0 < X) = true by simpa using (show 0 < X by omega), Bool.true_and] at C2
                    have HUP : Hid (∀ u, Calls Tryd.prog 39 #[.int .i64 X, .int .i64 Y, .int .i64 C, .int .i64 R] u fun e w' => e = .returned (.int .i64 (up : Nat)) ∧ u = w') := HUP0.out (by omega)
                    clear HUP0
                    by_cases hy1 : Y + 1 < R
                    · have iy1 : (Y : Int) + 1 < (R : Int) := by omega
                      rw [show decide (Y + 1 < R) = true by simpa using hy1, Bool.true_and] at C2
                      cases hb2 : S.testBit up with
                      | true =>
                        have q2 := tm1 hb2
                        have HC2 : c2L C R S Y X = true := by rw [C2]; exact hb2
                        have HQ : Hid (AL ++ rowTo C R S Y (X + 1) = (L1 ++ [(pa, pa1)]) ++ [(pa, pa2)]) := HROW.out true true HC1 HC2
                        clear C2 hb2 HC1 HC2 HROW
                        go_wp2_with fail
                        refine (HLV.out _).mono ?_
                        rintro e6 w6 ⟨rfl, rfl⟩
                        obtain ⟨vsa, vla, voa, vra⟩ := id HST.out.rows
                        rw [HK.out] at vla voa vra
                        have oba := fun j hj => (World.ownsRow.lt voa j hj)
                        have gdla := HST.out.own.lt
                        go_wp2_with (at_builtin; (refine wpList_append_lies _ rfl (.tmp 60) (.tmp 73) 50 rfl (gd + 1) 31 i0 _ 1 24 Tryd.underlying50 hi0 hz0 hz1 hz2 rfl (by omega) (.slice OA (k) oc) (k) vsa rfl (World.ownsRow.alloc (World.ownsRow.alloc voa _) _) ⟨wr.heap.size + 1, 0, none⟩ 1 1 [.slice (some ⟨wr.heap.size, 0, none⟩) 2 2] rfl rfl (World.news_of_block (cs := #[.slice (some ⟨wr.heap.size, 0, none⟩) 2 2]) (t := 31) (fr := (0, 0)) (by simpa using heap_alloc_new (wr.alloc (.cells #[.int .i64 (pa : Nat), .int .i64 (pa1 : Nat)] 3)) (.cells #[.slice (some ⟨wr.heap.size, 0, none⟩) 2 2] 31))) (by simp [Value.oneCell']) (by omega) (by simp [maxLen]; omega) (by omega) (by simp; omega) _ rfl ?_); intro gga cca w5a hown5a hgrowa hata hlt5a)
                        have HSTa := Lib.hid (PairSt.push (a := pa) (b := pa1) HK.out HST.out.own HST.out.bel vla voa vra hown5a hgrowa hata)
                        clear vla voa vra oba gdla hown5a hgrowa hata hlt5a
                        have HKa : Hid ((L1 ++ [(pa, pa1)]).length = k + 1) := by rw [Hid, List.length_append, HK.out]; rfl
                        go_wp2_with fail
                        refine (HUP.out _).mono ?_
                        rintro e7 w7 ⟨rfl, rfl⟩
                        obtain ⟨vsb, vlb, vob, vrb⟩ := id HSTa.out.rows
                        rw [HKa.out] at vlb vob vrb
                        have obb := fun j hj => (World.ownsRow.lt vob j hj)
                        have gdlb := HSTa.out.own.lt
                        go_wp2_with (at_builtin; (refine wpList_append_lies _ rfl (.tmp 100) (.tmp 113) 50 rfl (gd + 1) 31 i0 _ 1 24 Tryd.underlying50 hi0 hz0 hz1 hz2 rfl (by omega) (.slice (some ⟨gga, 0, none⟩) (k + 1) cca) (k + 1) vsb rfl (World.ownsRow.alloc (World.ownsRow.alloc vob _) _) ⟨w5a.heap.size + 1, 0, none⟩ 1 1 [.slice (some ⟨w5a.heap.size, 0, none⟩) 2 2] rfl rfl (World.news_of_block (cs := #[.slice (some ⟨w5a.heap.size, 0, none⟩) 2 2]) (t := 31) (fr := (0, 0)) (by simpa using heap_alloc_new (w5a.alloc (.cells #[.int .i64 (pa : Nat), .int .i64 (pa2 : Nat)] 3)) (.cells #[.slice (some ⟨w5a.heap.size, 0, none⟩) 2 2] 31))) (by simp [Value.oneCell']) (by omega) (by simp [maxLen]; omega) (by omega) (by simp; omega) _ rfl ?_); intro ggb ccb w5b hown5b hgrowb hatb hlt5b)
                        have HSTb := Lib.hid (PairSt.push (a := pa) (b := pa2) HKa.out HSTa.out.own HSTa.out.bel vlb vob vrb hown5b hgrowb hatb)
                        clear vlb vob vrb obb gdlb hown5b hgrowb hatb hlt5b
                        go_wp2_with fail
                        go_roundw
                        case rel => exact ⟨X + 1, (some ⟨ggb, 0, none⟩), ccb, by omega, by go_num, by rw [HQ.out]; simp [HK.out], by rw [HQ.out]; exact HSTb.out⟩
                        case measure => first | (simp [intOf]; done) | (simp [intOf]; omega)

                      | false =>
                        have q2 := tm0 hb2
                        have HC2 : c2L C R S Y X = false := by rw [C2]; exact hb2
                        have HQ : Hid (AL ++ rowTo C R S Y (X + 1) = L1 ++ [(pa, pa1)]) := HROW.out true false HC1 HC2
                        clear C2 hb2 HC1 HC2 HROW
                        go_wp2_with fail
                        refine (HLV.out _).mono ?_
                        rintro e6 w6 ⟨rfl, rfl⟩
                        obtain ⟨vsa, vla, voa, vra⟩ := id HST.out.rows
                        rw [HK.out] at vla voa vra
                        have oba := fun j hj => (World.ownsRow.lt voa j hj)
                        have gdla := HST.out.own.lt
                        go_wp2_with (at_builtin; (refine wpList_append_lies _ rfl (.tmp 60) (.tmp 73) 50 rfl (gd + 1) 31 i0 _ 1 24 Tryd.underlying50 hi0 hz0 hz1 hz2 rfl (by omega) (.slice OA (k) oc) (k) vsa rfl (World.ownsRow.alloc (World.ownsRow.alloc voa _) _) ⟨wr.heap.size + 1, 0, none⟩ 1 1 [.slice (some ⟨wr.heap.size, 0, none⟩) 2 2] rfl rfl (World.news_of_block (cs := #[.slice (some ⟨wr.heap.size, 0, none⟩) 2 2]) (t := 31) (fr := (0, 0)) (by simpa using heap_alloc_new (wr.alloc (.cells #[.int .i64 (pa : Nat), .int .i64 (pa1 : Nat)] 3)) (.cells #[.slice (some ⟨wr.heap.size, 0, none⟩) 2 2] 31))) (by simp [Value.oneCell']) (by omega) (by simp [maxLen]; omega) (by omega) (by simp; omega) _ rfl ?_); intro gga cca w5a hown5a hgrowa hata hlt5a)
                        have HSTa := Lib.hid (PairSt.push (a := pa) (b := pa1) HK.out HST.out.own HST.out.bel vla voa vra hown5a hgrowa hata)
                        clear vla voa vra oba gdla hown5a hgrowa hata hlt5a
                        have HKa : Hid ((L1 ++ [(pa, pa1)]).length = k + 1) := by rw [Hid, List.length_append, HK.out]; rfl
                        go_wp2_with fail
                        refine (HUP.out _).mono ?_
                        rintro e7 w7 ⟨rfl, rfl⟩
                        go_wp2_with fail
                        go_roundw
                        case rel => exact ⟨X + 1, (some ⟨gga, 0, none⟩), cca, by omega, by go_num, by rw [HQ.out]; simp [HK.out], by rw [HQ.out]; exact HSTa.out⟩
                        case measure => first | (simp [intOf]; done) | (simp [intOf]; omega)

                    · have iy1 : ¬ (Y : Int) + 1 < (R : Int) := by omega
                      have HC2 : c2L C R S Y X = false := by rw [C2]; simp [hy1]
                      have HQ : Hid (AL ++ rowTo C R S Y (X + 1) = L1 ++ [(pa, pa1)]) := HROW.out true false HC1 HC2
                      clear C2 HC1 HC2 HROW HUP
                      go_wp2_with fail
                      refine (HLV.out _).mono ?_
                      rintro e6 w6 ⟨rfl, rfl⟩
                      obtain ⟨vsa, vla, voa, vra⟩ := id HST.out.rows
                      rw [HK.out] at vla voa vra
                      have oba := fun j hj => (World.ownsRow.lt voa j hj)
                      have gdla := HST.out.own.lt
                      go_wp2_with (at_builtin; (refine wpList_append_lies _ rfl (.tmp 60) (.tmp 73) 50 rfl (gd + 1) 31 i0 _ 1 24 Tryd.underlying50 hi0 hz0 hz1 hz2 rfl (by omega) (.slice OA (k) oc) (k) vsa rfl (World.ownsRow.alloc (World.ownsRow.alloc voa _) _) ⟨wr.heap.size + 1, 0, none⟩ 1 1 [.slice (some ⟨wr.heap.size, 0, none⟩) 2 2] rfl rfl (World.news_of_block (cs := #[.slice (some ⟨wr.heap.size, 0, none⟩) 2 2]) (t := 31) (fr := (0, 0)) (by simpa using heap_alloc_new (wr.alloc (.cells #[.int .i64 (pa : Nat), .int .i64 (pa1 : Nat)] 3)) (.cells #[.slice (some ⟨wr.heap.size, 0, none⟩) 2 2] 31))) (by simp [Value.oneCell']) (by omega) (by simp [maxLen]; omega) (by omega) (by simp; omega) _ rfl ?_); intro gga cca w5a hown5a hgrowa hata hlt5a)
                      have HSTa := Lib.hid (PairSt.push (a := pa) (b := pa1) HK.out HST.out.own HST.out.bel vla voa vra hown5a hgrowa hata)
                      clear vla voa vra oba gdla hown5a hgrowa hata hlt5a
                      have HKa : Hid ((L1 ++ [(pa, pa1)]).length = k + 1) := by rw [Hid, List.length_append, HK.out]; rfl
                      go_wp2_with fail
                      go_roundw
                      case rel => exact ⟨X + 1, (some ⟨gga, 0, none⟩), cca, by omega, by go_num, by rw [HQ.out]; simp [HK.out], by rw [HQ.out]; exact HSTa.out⟩
                      case measure => first | (simp [intOf]; done) | (simp [intOf]; omega)
                | false =>
                  have q1 := tm0 hb1
                  have HC1 : c1L C S Y X = false := by rw [C1]; exact hb1
                  clear C1 hb1
                  by_cases hx0 : X < 1
                  · have ix0 : ¬ (0 : Int) < (X : Int) := by omega
                    have iX0 : ¬ 0 < X := by omega
                    have HC2 : c2L C R S Y X = false := by rw [C2]; simp [show ¬ 0 < X by omega]
                    have HQ : Hid (AL ++ rowTo C R S Y (X + 1) = L1) := HROW.out false false HC1 HC2
                    clear C2 HC1 HC2 HROW HUP0
                    go_wp2_with fail
                    refine (HLV.out _).mono ?_
                    rintro e6 w6 ⟨rfl, rfl⟩
                    go_wp2_with fail
                    go_roundw
                    case rel => exact ⟨X + 1, OA, oc, by omega, by go_num, by rw [HQ.out]; simp [HK.out], by rw [HQ.out]; exact HST.out⟩
                    case measure => first | (simp [intOf]; done) | (simp [intOf]; omega)

                  · have ix0 : (0 : Int) < (X : Int) := by omega
                    have iX0 : 0 < X := by omega
                    rw [show decide (0 < X) = true by simpa using (show 0 < X by omega), Bool.true_and] at C2
                    have HUP : Hid (∀ u, Calls Tryd.prog 39 #[.int .i64 X, .int .i64 Y, .int .i64 C, .int .i64 R] u fun e w' => e = .returned (.int .i64 (up : Nat)) ∧ u = w') := HUP0.out (by omega)
                    clear HUP0
                    by_cases hy1 : Y + 1 < R
                    · have iy1 : (Y : Int) + 1 < (R : Int) := by omega
                      rw [show decide (Y + 1 < R) = true by simpa using hy1, Bool.true_and] at C2
                      cases hb2 : S.testBit up with
                      | true =>
                        have q2 := tm1 hb2
                        have HC2 : c2L C R S Y X = true := by rw [C2]; exact hb2
                        have HQ : Hid (AL ++ rowTo C R S Y (X + 1) = L1 ++ [(pa, pa2)]) := HROW.out false true HC1 HC2
                        clear C2 hb2 HC1 HC2 HROW
                        go_wp2_with fail
                        refine (HLV.out _).mono ?_
                        rintro e6 w6 ⟨rfl, rfl⟩
                        go_wp2_with fail
                        refine (HUP.out _).mono ?_
                        rintro e7 w7 ⟨rfl, rfl⟩
                        obtain ⟨vsb, vlb, vob, vrb⟩ := id HST.out.rows
                        rw [HK.out] at vlb vob vrb
                        have obb := fun j hj => (World.ownsRow.lt vob j hj)
                        have gdlb := HST.out.own.lt
                        go_wp2_with (at_builtin; (refine wpList_append_lies _ rfl (.tmp 100) (.tmp 113) 50 rfl (gd + 1) 31 i0 _ 1 24 Tryd.underlying50 hi0 hz0 hz1 hz2 rfl (by omega) (.slice OA (k) oc) (k) vsb rfl (World.ownsRow.alloc (World.ownsRow.alloc vob _) _) ⟨wr.heap.size + 1, 0, none⟩ 1 1 [.slice (some ⟨wr.heap.size, 0, none⟩) 2 2] rfl rfl (World.news_of_block (cs := #[.slice (some ⟨wr.heap.size, 0, none⟩) 2 2]) (t := 31) (fr := (0, 0)) (by simpa using heap_alloc_new (wr.alloc (.cells #[.int .i64 (pa : Nat), .int .i64 (pa2 : Nat)] 3)) (.cells #[.slice (some ⟨wr.heap.size, 0, none⟩) 2 2] 31))) (by simp [Value.oneCell']) (by omega) (by simp [maxLen]; omega) (by omega) (by simp; omega) _ rfl ?_); intro ggb ccb w5b hown5b hgrowb hatb hlt5b)
                        have HSTb := Lib.hid (PairSt.push (a := pa) (b := pa2) HK.out HST.out.own HST.out.bel vlb vob vrb hown5b hgrowb hatb)
                        clear vlb vob vrb obb gdlb hown5b hgrowb hatb hlt5b
                        go_wp2_with fail
                        go_roundw
                        case rel => exact ⟨X + 1, (some ⟨ggb, 0, none⟩), ccb, by omega, by go_num, by rw [HQ.out]; simp [HK.out], by rw [HQ.out]; exact HSTb.out⟩
                        case measure => first | (simp [intOf]; done) | (simp [intOf]; omega)

                      | false =>
                        have q2 := tm0 hb2
                        have HC2 : c2L C R S Y X = false := by rw [C2]; exact hb2
                        have HQ : Hid (AL ++ rowTo C R S Y (X + 1) = L1) := HROW.out false false HC1 HC2
                        clear C2 hb2 HC1 HC2 HROW
                        go_wp2_with fail
                        refine (HLV.out _).mono ?_
                        rintro e6 w6 ⟨rfl, rfl⟩
                        go_wp2_with fail
                        refine (HUP.out _).mono ?_
                        rintro e7 w7 ⟨rfl, rfl⟩
                        go_wp2_with fail
                        go_roundw
                        case rel => exact ⟨X + 1, OA, oc, by omega, by go_num, by rw [HQ.out]; simp [HK.out], by rw [HQ.out]; exact HST.out⟩
                        case measure => first | (simp [intOf]; done) | (simp [intOf]; omega)

                    · have iy1 : ¬ (Y : Int) + 1 < (R : Int) := by omega
                      have HC2 : c2L C R S Y X = false := by rw [C2]; simp [hy1]
                      have HQ : Hid (AL ++ rowTo C R S Y (X + 1) = L1) := HROW.out false false HC1 HC2
                      clear C2 HC1 HC2 HROW HUP
                      go_wp2_with fail
                      refine (HLV.out _).mono ?_
                      rintro e6 w6 ⟨rfl, rfl⟩
                      go_wp2_with fail
                      go_roundw
                      case rel => exact ⟨X + 1, OA, oc, by omega, by go_num, by rw [HQ.out]; simp [HK.out], by rw [HQ.out]; exact HST.out⟩
                      case measure => first | (simp [intOf]; done) | (simp [intOf]; omega)
              · have ix1 : ¬ (X : Int) + 1 < (C : Int) := by omega
                have HC1 : c1L C S Y X = false := by rw [C1]; simp [hx1]
                have HC2 : c2L C R S Y X = false := by rw [C2]; simp [hx1]
                have HQ : Hid (AL ++ rowTo C R S Y (X + 1) = L1) := HROW.out false false HC1 HC2
                clear C1 C2 HC1 HC2 HROW HLV HUP0
                by_cases hx0 : X < 1
                · have ix0 : ¬ (0 : Int) < (X : Int) := by omega
                  have iX0 : ¬ 0 < X := by omega
                  go_wp2_with fail
                  go_roundw
                  case rel => exact ⟨X + 1, OA, oc, by omega, by go_num, by rw [HQ.out]; simp [HK.out], by rw [HQ.out]; exact HST.out⟩
                  case measure => first | (simp [intOf]; done) | (simp [intOf]; omega)
                · have ix0 : (0 : Int) < (X : Int) := by omega
                  have iX0 : 0 < X := by omega
                  go_wp2_with fail
                  go_roundw
                  case rel => exact ⟨X + 1, OA, oc, by omega, by go_num, by rw [HQ.out]; simp [HK.out], by rw [HQ.out]; exact HST.out⟩
                  case measure => first | (simp [intOf]; done) | (simp [intOf]; omega)
            · obtain rfl : X = C := by omega
              go_wp2_with fail
              go_roundw
              case rel => exact ⟨Y + 1, OA, oc, by omega, by go_num, by rw [HAL.out], by rw [HAL.out]; exact PS⟩
              case measure => simp [intOf]; omega
        · obtain rfl : Y = R := by omega
          have hlen := all_len C Y S Y
          have hlen2 : (allL C Y S Y).length ≤ 24 := Nat.le_trans hlen (Nat.le_trans (Nat.mul_le_mul (show Y ≤ 3 by omega) (show C * 2 ≤ 8 by omega)) (by decide))
          have HGROW := Lib.hid (l7Grow_any gd n n oc (colL C Y) OA (allL C Y S Y) wr w.heap.size PS.own (PS.rows.pairs (by omega)) HIN.out HF.out n12 (by omega))
          have HBEL := Lib.hid PS.bel
          clear PS hlen
          generalize allL C Y S Y = AL at *
          generalize AL.length = k at *
          go_wp2_with fail
          refine HGROW.out.mono ?_
          rintro e5 w5 ⟨D, hD, rfl, own5, hb5⟩
          have HV := Lib.hid (HFIN.out D hD)
          have BB := HBEL.out.trans hb5
          clear HFIN HGROW HBEL hD hb5
          obtain ⟨f, hf⟩ : ∃ f : Nat → Nat, (fun y => y * C + C - 1) = f := ⟨_, rfl⟩
          rw [hf] at HV
          have HFD : Hid (∀ y, y < Y → f y < n ∧ y * C + C - 1 = f y) := fun y hy => by
            rw [← hf]
            refine ⟨?_, rfl⟩
            have := (HPL.out (C - 1) y (by omega) hy).1
            show y * C + C - 1 < n
            omega
          clear hf HPL HCL HIN HF
          go_wp2_with fail
          go_loopw [11] (fun y wr => ∃ J : Nat, J ≤ Y ∧ y = .int .i64 (J : Nat) ∧ orTo D f J = false ∧ wr = w5) (fun y _ => Y - (intOf y).toNat)
          case atStart => exact ⟨0, by omega, rfl, rfl, rfl⟩
          case round =>
            obtain ⟨J, hJ, rfl, hor, rfl⟩ := hrel
            by_cases hltj : J < Y
            · obtain ⟨f1, f2⟩ := HFD.out J hltj
              obtain ⟨zz, hzz⟩ : ∃ zz, J * C = zz := ⟨_, rfl⟩
              have hzz12 : zz ≤ 12 := by rw [← hzz]; exact Nat.mul_le_mul (show J ≤ 3 by omega) hc.2
              rw [hzz] at f2
              have wz : IntKind.i64.wrap ((J : Int) * (C : Int)) = (zz : Int) := by rw [← Int.natCast_mul, hzz]; exact IntWalk.i64_in _ (by omega)
              have wz2 : IntKind.i64.wrap ((zz : Int) + (C : Int)) = ((zz + C : Nat) : Int) := by rw [IntWalk.i64_in _ (by omega)]; omega
              have wz3 : IntKind.i64.wrap (((zz + C : Nat) : Int) - 1) = ((f J : Nat) : Int) := by rw [IntWalk.i64_in _ (by omega)]; omega
              obtain ⟨x1, x2⟩ := own5.slot f1
              have HS : Hid (orTo D f (J + 1) = (orTo D f J || D.testBit (f J))) := rfl
              rw [hor, Bool.false_or] at HS
              have ifn : ((f J : Nat) : Int) < (n : Int) := by omega
              have HTRUE : Hid (D.testBit (f J) = true → v = true) := fun h => by rw [← HV.out, orTo_iff]; exact ⟨J, hltj, h⟩
              clear hzz f2 hor
              generalize D.testBit (f J) = b at *
              generalize f J = z at *
              generalize zz + C = z3 at *
              cases b with
              | true =>
                have hv := HTRUE.out rfl
                subst hv
                go_wp2_with fail
                go_returns
                exact ⟨rfl, by first | exact BB | (rw [hgd] at BB; exact BB)⟩
              | false =>
                go_wp2_with fail
                go_roundw
                case rel => exact ⟨J + 1, by omega, by go_num, HS.out, by first | rfl | trivial⟩
                case measure => simp [intOf]; omega
            · obtain rfl : J = Y := by omega
              have hv : v = false := by rw [← HV.out]; exact hor
              subst hv
              go_wp2_with fail
              go_returns
              exact ⟨rfl, by first | exact BB | (rw [hgd] at BB; exact BB)⟩
end Go.Proofs.YtcmomghlepmogaaDoor
