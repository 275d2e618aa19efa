/- Grids of the reference: GridOk, GridEdges, pairs of a state. -/
import Derived.Test.YtcmomghlepmogaaSpec7c
import Derived.Test.YtcmomghlepmogaaSpec7b
namespace Go.Proofs.Ytcmomghlepmogaa
open Go.RowKit
set_option maxRecDepth 100000

def gridOkB (w h : Int) : Bool := (decide (2 ≤ w) && decide (w ≤ 4)) && (decide (1 ≤ h) && decide (h ≤ 3))
theorem gridOkB_iff {c r : Int} : gridOkB c r = true ↔ (2 ≤ c ∧ c ≤ 4) ∧ 1 ≤ r ∧ r ≤ 3 := by simp [gridOkB]
theorem grid_nat {c r : Int} (h : gridOkB c r = true) : ∃ C R : Nat, c = C ∧ r = R ∧ (2 ≤ C ∧ C ≤ 4) ∧ 1 ≤ R ∧ R ≤ 3 := by
  obtain ⟨h1, h2⟩ := gridOkB_iff.1 h
  exact ⟨c.toNat, r.toNat, by omega, by omega, by omega, by omega⟩
theorem specGridOk_any (c r : Int) (w : World) : Calls Try.prog 9 #[.int .i64 c, .int .i64 r] w fun e w' => e = .returned (.bool (gridOkB c r)) ∧ w = w' := by
  unfold gridOkB
  cases h : (decide (2 ≤ c) && decide (c ≤ 4)) with
  | false =>
    have H := Lib.hid h
    go_enter Try.func9, Try.ntmps9
    go_wp2_with fail
    refine (l1In_any _ _ _ _).mono ?_
    rintro e1 w1 ⟨rfl, rfl⟩
    rw [H.out]
    go_wp2_with fail
    go_returns
    exact ⟨rfl, rfl⟩
  | true =>
    have H := Lib.hid h
    clear h
    go_enter Try.func9, Try.ntmps9
    go_wp2_with fail
    refine (l1In_any _ _ _ _).mono ?_
    rintro e1 w1 ⟨rfl, rfl⟩
    rw [H.out]
    go_wp2_with fail
    refine (l1In_any _ _ _ _).mono ?_
    rintro e2 w2 ⟨rfl, rfl⟩
    go_wp2_with fail
    go_returns
    exact ⟨rfl, rfl⟩
def gridEI (w h : Int) : Int := if gridOkB w h = true then (gridE w.toNat h.toNat : Nat) else -1
theorem grid_edges {C R : Nat} (hc : 2 ≤ C ∧ C ≤ 4) (hr : 1 ≤ R ∧ R ≤ 3) : ((gridE C R : Nat) : Int) = ((C : Int) - 1) * R + ((C : Int) - 2) * ((R : Int) - 1) ∧ 1 ≤ gridE C R ∧ gridE C R ≤ 13 := by
  rcases (show C = 2 ∨ C = 3 ∨ C = 4 by omega) with rfl | rfl | rfl <;> rcases (show R = 1 ∨ R = 2 ∨ R = 3 by omega) with rfl | rfl | rfl <;> decide
theorem small_prod {x y a b : Int} (h0 : 0 ≤ x) (h1 : x ≤ a) (h2 : 0 ≤ y) (h3 : y ≤ b) (ha : 0 ≤ a) : 0 ≤ x * y ∧ x * y ≤ a * b :=
  ⟨Int.mul_nonneg h0 h2, Int.mul_le_mul h1 h3 h2 ha⟩
theorem specGridEdges_any (c r : Int) (w : World) : Calls Try.prog 13 #[.int .i64 c, .int .i64 r] w fun e w' => e = .returned (.int .i64 (gridEI c r)) ∧ w = w' := by
  unfold gridEI
  cases hB : gridOkB c r with
  | false =>
    have HB := Lib.hid hB
    rw [if_neg (by simp)]
    clear hB
    go_enter Try.func13, Try.ntmps13
    go_wp2_with fail
    refine (specGridOk_any _ _ _).mono ?_
    rintro e1 w1 ⟨rfl, rfl⟩
    rw [HB.out]
    go_wp2_with fail
    go_returns
    exact ⟨rfl, rfl⟩
  | true =>
    have HB := Lib.hid hB
    rw [if_pos rfl]
    obtain ⟨C, R, rfl, rfl, hc, hr⟩ := grid_nat hB
    rw [show ((C : Nat) : Int).toNat = C from rfl, show ((R : Nat) : Int).toNat = R from rfl]
    have he := (grid_edges hc hr).1
    have k1 := small_prod (x := (C : Int) - 1) (y := R) (a := 3) (b := 3) (by omega) (by omega) (by omega) (by omega) (by omega)
    have k2 := small_prod (x := (C : Int) - 2) (y := (R : Int) - 1) (a := 2) (b := 2) (by omega) (by omega) (by omega) (by omega) (by omega)
    have w1 : IntKind.i64.wrap ((C : Int) - 1) = (C : Int) - 1 := IntWalk.i64_in _ (by omega)
    have w2 : IntKind.i64.wrap ((C : Int) - 2) = (C : Int) - 2 := IntWalk.i64_in _ (by omega)
    have w3 : IntKind.i64.wrap ((R : Int) - 1) = (R : Int) - 1 := IntWalk.i64_in _ (by omega)
    have w4 : IntKind.i64.wrap (((C : Int) - 1) * R) = ((C : Int) - 1) * R := IntWalk.i64_in _ (by omega)
    have w5 : IntKind.i64.wrap (((C : Int) - 2) * ((R : Int) - 1)) = ((C : Int) - 2) * ((R : Int) - 1) := IntWalk.i64_in _ (by omega)
    have w6 : IntKind.i64.wrap (((C : Int) - 1) * R + ((C : Int) - 2) * ((R : Int) - 1)) = ((gridE C R : Nat) : Int) := by rw [he]; exact IntWalk.i64_in _ (by omega)
    generalize gridE C R = E at *
    clear hB he k1 k2
    go_enter Try.func13, Try.ntmps13
    go_wp2_with fail
    refine (specGridOk_any _ _ _).mono ?_
    rintro e1 w1 ⟨rfl, rfl⟩
    rw [HB.out]
    go_wp2_with fail
    go_returns
    exact ⟨by first | rfl | simp, rfl⟩

/-- The pairs of a state, point by point, in the order of the reference. -/
def c1L (w s y x : Nat) : Bool := decide (x + 1 < w) && s.testBit (y * (w - 1) + x)
def c2L (w h s y x : Nat) : Bool := decide (0 < x) && (decide (x + 1 < w) && (decide (y + 1 < h) && s.testBit ((w - 1) * h + y * (w - 2) + x - 1)))
def cellL (w h s y x : Nat) : List (Nat × Nat) := (if c1L w s y x = true then [(y * w + x, y * w + x + 1)] else []) ++ (if c2L w h s y x = true then [(y * w + x, (y + 1) * w + x)] else [])
def rowTo (w h s y : Nat) : Nat → List (Nat × Nat)
  | 0 => []
  | x + 1 => rowTo w h s y x ++ cellL w h s y x
def allL (w h s : Nat) : Nat → List (Nat × Nat)
  | 0 => []
  | y + 1 => allL w h s y ++ rowTo w h s y w
theorem mem_cellL {w h s y x a b : Nat} : (a, b) ∈ cellL w h s y x ↔ a = y * w + x ∧ ((c1L w s y x = true ∧ b = a + 1) ∨ (c2L w h s y x = true ∧ b = a + w)) := by
  unfold cellL
  have e : (y + 1) * w + x = y * w + x + w := by rw [Nat.add_mul, Nat.one_mul]; omega
  rw [List.mem_append, e]
  cases c1L w s y x <;> cases c2L w h s y x <;> simp <;> omega
theorem mem_rowTo {w h s y a b : Nat} : ∀ n, (a, b) ∈ rowTo w h s y n ↔ ∃ x, x < n ∧ (a, b) ∈ cellL w h s y x
  | 0 => by simp [rowTo]
  | n + 1 => by
    rw [rowTo, List.mem_append, mem_rowTo n]
    constructor
    · rintro (⟨x, h1, h2⟩ | h)
      · exact ⟨x, by omega, h2⟩
      · exact ⟨n, by omega, h⟩
    · rintro ⟨x, h1, h2⟩
      by_cases e : x = n
      · subst e; exact .inr h2
      · exact .inl ⟨x, by omega, h2⟩
theorem mem_allL {w h s a b : Nat} : ∀ n, (a, b) ∈ allL w h s n ↔ ∃ y, y < n ∧ ∃ x, x < w ∧ (a, b) ∈ cellL w h s y x
  | 0 => by simp [allL]
  | n + 1 => by
    rw [allL, List.mem_append, mem_allL n, mem_rowTo]
    constructor
    · rintro (⟨y, h1, h2⟩ | h)
      · exact ⟨y, by omega, h2⟩
      · exact ⟨n, by omega, h⟩
    · rintro ⟨y, h1, h2⟩
      by_cases e : y = n
      · subst e; exact .inr h2
      · exact .inl ⟨y, by omega, h2⟩
theorem div_place {w y x : Nat} (hx : x < w) : (y * w + x) / w = y ∧ (y * w + x) % w = x := by
  rw [Nat.mul_comm, Nat.mul_add_div (by omega), Nat.div_eq_of_lt hx, Nat.add_zero, Nat.mul_add_mod, Nat.mod_eq_of_lt hx]
  exact ⟨rfl, rfl⟩
theorem place_lt {w h y x : Nat} (hx : x < w) (hy : y < h) : y * w + x < w * h := by
  have : (y + 1) * w ≤ h * w := Nat.mul_le_mul_right w (by omega)
  rw [Nat.add_mul, Nat.one_mul, Nat.mul_comm h w] at this
  omega
theorem place_of {w h a : Nat} (h0 : a < w * h) (hw : 0 < w) : a = a / w * w + a % w ∧ a % w < w ∧ a / w < h :=
  ⟨by rw [Nat.mul_comm]; exact (Nat.div_add_mod a w).symm, Nat.mod_lt _ hw, Nat.div_lt_of_lt_mul h0⟩
theorem pairs_are {w h s a b : Nat} (hw : 0 < w) : (a, b) ∈ allL w h s h ↔ ((ptH w h s).testBit a = true ∧ b = a + 1) ∨ ((ptV w h s).testBit a = true ∧ b = a + w) := by
  rw [mem_allL]
  unfold ptH ptV
  rw [maskOf_bit, maskOf_bit]
  simp only [Bool.and_eq_true, decide_eq_true_eq]
  constructor
  · rintro ⟨y, hy, x, hx, hm⟩
    obtain ⟨ha, hm⟩ := mem_cellL.1 hm
    obtain ⟨d1, d2⟩ := div_place (y := y) hx
    have hl := place_lt hx hy
    rw [← ha] at d1 d2 hl
    rw [d1, d2]
    rcases hm with ⟨h1, h2⟩ | ⟨h1, h2⟩
    · simp only [c1L, Bool.and_eq_true, decide_eq_true_eq] at h1
      exact .inl ⟨⟨hl, h1⟩, h2⟩
    · simp only [c2L, Bool.and_eq_true, decide_eq_true_eq] at h1
      exact .inr ⟨⟨hl, h1⟩, h2⟩
  · rintro (⟨⟨hl, h1⟩, h2⟩ | ⟨⟨hl, h1⟩, h2⟩)
    · obtain ⟨p1, p2, p3⟩ := place_of hl hw
      exact ⟨a / w, p3, a % w, p2, mem_cellL.2 ⟨p1, .inl ⟨by simp only [c1L, Bool.and_eq_true, decide_eq_true_eq]; exact h1, h2⟩⟩⟩
    · obtain ⟨p1, p2, p3⟩ := place_of hl hw
      exact ⟨a / w, p3, a % w, p2, mem_cellL.2 ⟨p1, .inr ⟨by simp only [c2L, Bool.and_eq_true, decide_eq_true_eq]; exact h1, h2⟩⟩⟩
theorem adj_are {w H V : Nat} {ps : List (Nat × Nat)} (hp : ∀ a b, (a, b) ∈ ps ↔ (H.testBit a = true ∧ b = a + 1) ∨ (V.testBit a = true ∧ b = a + w)) (a b : Nat) : adjP ps a b = adjG w H V a b := by
  rw [Bool.eq_iff_iff]
  simp only [adjP, adjG, decide_eq_true_eq, hp, Bool.or_eq_true, Bool.and_eq_true, beq_iff_eq]
  constructor
  · rintro ((⟨h1, h2⟩ | ⟨h1, h2⟩) | (⟨h1, h2⟩ | ⟨h1, h2⟩))
    · exact .inl (.inl (.inl ⟨h2.symm, h1⟩))
    · exact .inl (.inr ⟨h2.symm, h1⟩)
    · exact .inl (.inl (.inr ⟨h2.symm, h1⟩))
    · exact .inr ⟨h2.symm, h1⟩
  · rintro (((⟨h1, h2⟩ | ⟨h1, h2⟩) | ⟨h1, h2⟩) | ⟨h1, h2⟩)
    · exact .inl (.inl ⟨h2, h1.symm⟩)
    · exact .inr (.inl ⟨h2, h1.symm⟩)
    · exact .inl (.inr ⟨h2, h1.symm⟩)
    · exact .inr (.inr ⟨h2, h1.symm⟩)
/-- Fields in the order of the reference. -/
def d1L (w s x y : Nat) : Bool := !s.testBit (y * (w - 1) + x)
def d2L (w h s x y : Nat) : Bool := decide (x + 1 < w - 1) && (decide (y + 1 < h) && !s.testBit ((w - 1) * h + y * (w - 2) + (x + 1) - 1))
def cellP (w h s x y : Nat) : List (Nat × Nat) := (if d1L w s x y = true then [(y * (w - 1) + x, (y + 1) * (w - 1) + x)] else []) ++ (if d2L w h s x y = true then [((y + 1) * (w - 1) + x, (y + 1) * (w - 1) + x + 1)] else [])
def colTo (w h s x : Nat) : Nat → List (Nat × Nat)
  | 0 => []
  | y + 1 => colTo w h s x y ++ cellP w h s x y
def allP (w h s : Nat) : Nat → List (Nat × Nat)
  | 0 => []
  | x + 1 => allP w h s x ++ colTo w h s x h
theorem mem_cellP {w h s y x a b : Nat} : (a, b) ∈ cellP w h s x y ↔ (d1L w s x y = true ∧ a = y * (w - 1) + x ∧ b = a + (w - 1)) ∨ (d2L w h s x y = true ∧ a = (y + 1) * (w - 1) + x ∧ b = a + 1) := by
  unfold cellP
  have e : (y + 1) * (w - 1) + x = y * (w - 1) + x + (w - 1) := by rw [Nat.add_mul, Nat.one_mul]; omega
  rw [List.mem_append, e]
  cases d1L w s x y <;> cases d2L w h s x y <;> simp <;> omega
theorem mem_colTo {w h s x a b : Nat} : ∀ n, (a, b) ∈ colTo w h s x n ↔ ∃ y, y < n ∧ (a, b) ∈ cellP w h s x y
  | 0 => by simp [colTo]
  | n + 1 => by
    rw [colTo, List.mem_append, mem_colTo n]
    constructor
    · rintro (⟨x, h1, h2⟩ | h)
      · exact ⟨x, by omega, h2⟩
      · exact ⟨n, by omega, h⟩
    · rintro ⟨x, h1, h2⟩
      by_cases e : x = n
      · subst e; exact .inr h2
      · exact .inl ⟨x, by omega, h2⟩
theorem mem_allP {w h s a b : Nat} : ∀ n, (a, b) ∈ allP w h s n ↔ ∃ x, x < n ∧ ∃ y, y < h ∧ (a, b) ∈ cellP w h s x y
  | 0 => by simp [allP]
  | n + 1 => by
    rw [allP, List.mem_append, mem_allP n, mem_colTo]
    constructor
    · rintro (⟨y, h1, h2⟩ | h)
      · exact ⟨y, by omega, h2⟩
      · exact ⟨n, by omega, h⟩
    · rintro ⟨y, h1, h2⟩
      by_cases e : y = n
      · subst e; exact .inr h2
      · exact .inl ⟨y, by omega, h2⟩
theorem fields_are {w h s a b : Nat} (hw : 0 < w - 1) : (a, b) ∈ allP w h s (w - 1) ↔ ((fdH w h s).testBit a = true ∧ b = a + 1) ∨ ((fdV w h s).testBit a = true ∧ b = a + (w - 1)) := by
  rw [mem_allP]
  unfold fdH fdV
  rw [maskOf_bit, maskOf_bit]
  simp only [Bool.and_eq_true, decide_eq_true_eq]
  constructor
  · rintro ⟨x, hx, y, hy, hm⟩
    rcases mem_cellP.1 hm with ⟨h1, ha, h2⟩ | ⟨h1, ha, h2⟩
    · obtain ⟨d1, d2⟩ := div_place (y := y) hx
      have hl := place_lt (h := h + 1) hx (Nat.lt_succ_of_lt hy)
      rw [← ha] at d1 d2 hl
      rw [d1, d2]
      exact .inr ⟨⟨hl, hy, h1⟩, h2⟩
    · obtain ⟨d1, d2⟩ := div_place (y := y + 1) hx
      simp only [d2L, Bool.and_eq_true, decide_eq_true_eq] at h1
      have hl := place_lt (h := h + 1) hx (Nat.lt_succ_of_lt h1.2.1)
      rw [← ha] at d1 d2 hl
      rw [d1, d2]
      refine .inl ⟨⟨hl, h1.1, by omega, h1.2.1, ?_⟩, h2⟩
      have := h1.2.2
      rwa [show (w - 1) * h + y * (w - 2) + (x + 1) - 1 = (w - 1) * h + (y + 1 - 1) * (w - 2) + x by rw [Nat.add_sub_cancel]; omega] at this
  · rintro (⟨⟨hl, h1, h0, h3, h4⟩, h2⟩ | ⟨⟨hl, h1, h3⟩, h2⟩)
    · obtain ⟨p1, p2, p3⟩ := place_of hl hw
      obtain ⟨y, hy⟩ : ∃ y, a / (w - 1) = y + 1 := ⟨a / (w - 1) - 1, by omega⟩
      rw [hy] at p1 h3 h4
      refine ⟨a % (w - 1), p2, y, by omega, mem_cellP.2 (.inr ⟨?_, p1, h2⟩)⟩
      simp only [d2L, Bool.and_eq_true, decide_eq_true_eq]
      refine ⟨h1, h3, ?_⟩
      rwa [show (w - 1) * h + y * (w - 2) + (a % (w - 1) + 1) - 1 = (w - 1) * h + (y + 1 - 1) * (w - 2) + a % (w - 1) by rw [Nat.add_sub_cancel]; omega]
    · obtain ⟨p1, p2, p3⟩ := place_of hl hw
      exact ⟨a % (w - 1), p2, a / (w - 1), h1, mem_cellP.2 (.inl ⟨h3, p1, h2⟩)⟩
end Go.Proofs.Ytcmomghlepmogaa
