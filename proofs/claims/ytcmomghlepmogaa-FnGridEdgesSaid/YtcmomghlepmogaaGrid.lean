/- Plain facts on grids: either edges lead across, or one passes; decided for all grids by the kernel. -/
import Derived.Test.YtcmomghlepmogaaBoard
namespace Go.Proofs.Ytcmomghlepmogaa
set_option maxRecDepth 100000

/-- The mask of a test on the first n places. -/
def maskOf (q : Nat → Bool) : Nat → Nat
  | 0 => 0
  | n + 1 => maskOf q n + (if q n = true then 2 ^ n else 0)
theorem maskOf_lt (q : Nat → Bool) : ∀ n, maskOf q n < 2 ^ n
  | 0 => by simp [maskOf]
  | n + 1 => by
    have := maskOf_lt q n
    rw [maskOf, Nat.pow_succ]
    split <;> omega
theorem maskOf_bit (q : Nat → Bool) : ∀ n i, (maskOf q n).testBit i = (decide (i < n) && q i)
  | 0, i => by simp [maskOf]
  | n + 1, i => by
    have hlt := maskOf_lt q n
    have ih := maskOf_bit q n i
    rw [maskOf]
    by_cases h : q n = true
    · rw [if_pos h, Nat.add_comm]
      rcases Nat.lt_trichotomy i n with hi | hi | hi
      · rw [Nat.testBit_two_pow_add_gt hi, ih]; simp [hi, Nat.lt_succ_of_lt hi]
      · subst hi
        rw [Nat.testBit_two_pow_add_eq, Nat.testBit_lt_two_pow hlt]; simp [h]
      · rw [Nat.testBit_lt_two_pow (Nat.lt_of_lt_of_le (show 2 ^ n + maskOf q n < 2 ^ (n + 1) by rw [Nat.pow_succ]; omega) (Nat.pow_le_pow_right (by omega) (show n + 1 ≤ i by omega)))]
        have : ¬ i < n + 1 := by omega
        simp [this]
    · rw [if_neg h, Nat.add_zero, ih]
      rcases Nat.lt_trichotomy i n with hi | hi | hi
      · simp [hi, Nat.lt_succ_of_lt hi]
      · subst hi; simp [h]
      · have h1 : ¬ i < n + 1 := by omega
        have h2 : ¬ i < n := by omega
        simp [h1, h2]

/-- One step to the right and left where H has a bit, up and down where V has one. -/
def stepG (w H V D : Nat) : Nat := D ||| (((D &&& H) * 2) ||| ((D / 2 &&& H) ||| (((D &&& V) * 2 ^ w) ||| (D / 2 ^ w &&& V))))
def floodG (w H V : Nat) : Nat → Nat → Nat
  | 0, D => D
  | k + 1, D => floodG w H V k (stepG w H V D)
def adjG (w H V a b : Nat) : Bool := (a + 1 == b && H.testBit a) || (b + 1 == a && H.testBit b) || (a + w == b && V.testBit a) || (b + w == a && V.testBit b)
theorem stepG_bit (w H V D b : Nat) : (stepG w H V D).testBit b = true ↔ D.testBit b = true ∨ ∃ a, adjG w H V a b = true ∧ D.testBit a = true := by
  unfold stepG
  rw [show (D &&& H) * 2 = (D &&& H) * 2 ^ 1 from rfl, show D / 2 = D / 2 ^ 1 from rfl]
  simp only [Nat.testBit_or, Nat.testBit_and, Nat.testBit_mul_two_pow, Nat.testBit_div_two_pow, Bool.or_eq_true, Bool.and_eq_true, decide_eq_true_eq]
  constructor
  · rintro (h | h | h | h | h)
    · exact .inl h
    · obtain ⟨h0, h1, h2⟩ := h
      exact .inr ⟨b - 1, by simp [adjG, h2, show b - 1 + 1 = b by omega], h1⟩
    · obtain ⟨h1, h2⟩ := h
      exact .inr ⟨b + 1, by simp [adjG, h2], h1⟩
    · obtain ⟨h0, h1, h2⟩ := h
      exact .inr ⟨b - w, by simp [adjG, h2, show b - w + w = b by omega], h1⟩
    · obtain ⟨h1, h2⟩ := h
      exact .inr ⟨b + w, by simp [adjG, h2], h1⟩
  · rintro (h | ⟨a, ha, h1⟩)
    · exact .inl h
    · right
      unfold adjG at ha
      simp only [Bool.or_eq_true, Bool.and_eq_true, beq_iff_eq] at ha
      rcases ha with (((⟨e, h2⟩ | ⟨e, h2⟩) | ⟨e, h2⟩) | ⟨e, h2⟩)
      · subst e; exact .inl ⟨by omega, by simpa using h1, by simpa using h2⟩
      · subst e; exact .inr (.inl ⟨h1, h2⟩)
      · subst e; exact .inr (.inr (.inl ⟨by omega, by simpa using h1, by simpa using h2⟩))
      · subst e; exact .inr (.inr (.inr ⟨h1, h2⟩))
theorem floodG_more {w H V : Nat} : ∀ k D i, D.testBit i = true → (floodG w H V k D).testBit i = true
  | 0, _, _, h => h
  | k + 1, D, i, h => floodG_more k _ i ((stepG_bit w H V D i).2 (.inl h))
theorem floodG_least {w H V n : Nat} (hH : ∀ a, H.testBit a = true → a + 1 < n) (hV : ∀ a, V.testBit a = true → a + w < n) {E : Nat → Prop} (hE : ∀ a b, a < n → b < n → adjG w H V a b = true → E a → E b) :
    ∀ k D, (∀ i, D.testBit i = true → E i) → ∀ i, (floodG w H V k D).testBit i = true → E i
  | 0, _, h => h
  | k + 1, D, h => floodG_least hH hV hE k _ fun i hi => by
    rcases (stepG_bit w H V D i).1 hi with hi | ⟨a, ha, h1⟩
    · exact h i hi
    · have h2 : a < n ∧ i < n := by
        have ha' := ha
        unfold adjG at ha'
        simp only [Bool.or_eq_true, Bool.and_eq_true, beq_iff_eq] at ha'
        rcases ha' with (((⟨e, h2⟩ | ⟨e, h2⟩) | ⟨e, h2⟩) | ⟨e, h2⟩)
        · have := hH _ h2; omega
        · have := hH _ h2; omega
        · have := hV _ h2; omega
        · have := hV _ h2; omega
      exact hE a i h2.1 h2.2 ha (h a h1)
theorem floodG_is {w H V n F k : Nat} (hH : ∀ a, H.testBit a = true → a + 1 < n) (hV : ∀ a, V.testBit a = true → a + w < n) (hF : ∀ i, F.testBit i = true → i < n) (hcl : (stepG w H V (floodG w H V k F) == floodG w H V k F) = true) :
    Reach (adjG w H V) n (2 ^ n - 1) F (floodG w H V k F) := by
  have full : ∀ i, (2 ^ n - 1).testBit i = decide (i < n) := fun i => Nat.testBit_two_pow_sub_one ..
  refine ⟨fun i hi => ?_, fun i _ h2 => floodG_more _ _ i h2, fun a b _ _ ht h1 _ => ?_, fun E h1 h2 => ?_⟩
  · rw [full, decide_eq_true_eq]
    exact floodG_least hH hV (E := fun i => i < n) (fun _ b _ hb _ _ => hb) k F hF i hi
  · rw [beq_iff_eq] at hcl
    rw [← hcl]
    exact (stepG_bit ..).2 (.inr ⟨a, ht, h1⟩)
  · exact floodG_least hH hV (fun a b ha hb ht h => h2 a b ha hb ht h (by rw [full]; simpa using hb)) k F fun i hi => h1 i (by rw [full]; simpa using hF i hi) hi

def gridE (w h : Nat) : Nat := (w - 1) * h + (w - 2) * (h - 1)
/-- The points with an edge to the right, and those with one above. -/
def ptH (w h s : Nat) : Nat := maskOf (fun p => decide (p % w + 1 < w) && s.testBit (p / w * (w - 1) + p % w)) (w * h)
def ptV (w h s : Nat) : Nat := maskOf (fun p => decide (0 < p % w) && (decide (p % w + 1 < w) && (decide (p / w + 1 < h) && s.testBit ((w - 1) * h + p / w * (w - 2) + p % w - 1)))) (w * h)
/-- The fields from which one comes to the right, and upwards. -/
def fdH (w h s : Nat) : Nat := maskOf (fun f => decide (f % (w - 1) + 1 < w - 1) && (decide (0 < f / (w - 1)) && (decide (f / (w - 1) < h) && !s.testBit ((w - 1) * h + (f / (w - 1) - 1) * (w - 2) + f % (w - 1))))) ((w - 1) * (h + 1))
def fdV (w h s : Nat) : Nat := maskOf (fun f => decide (f / (w - 1) < h) && !s.testBit (f / (w - 1) * (w - 1) + f % (w - 1))) ((w - 1) * (h + 1))
def fdT (w h : Nat) : Nat := rowLow (w - 1) * 2 ^ (h * (w - 1))
def leadD (w h s : Nat) : Nat := floodG w (ptH w h s) (ptV w h s) 7 (colL w h)
def passD (w h s : Nat) : Nat := floodG (w - 1) (fdH w h s) (fdV w h s) 7 (rowLow (w - 1))
def leadsN (w h s : Nat) : Bool := !(leadD w h s &&& colR w h == 0)
def passesN (w h s : Nat) : Bool := !(passD w h s &&& fdT w h == 0)
def gridB (w h s : Nat) : Bool :=
  let H := ptH w h s
  let V := ptV w h s
  let d := floodG w H V 7 (colL w h)
  let H' := fdH w h s
  let V' := fdV w h s
  let e := floodG (w - 1) H' V' 7 (rowLow (w - 1))
  stepG w H V d == d && (stepG (w - 1) H' V' e == e && ((d &&& colR w h == 0) != (e &&& fdT w h == 0)))
theorem grid_21 : allTo (gridB 2 1) 1 0 = true := by decide +kernel
theorem grid_22 : allTo (gridB 2 2) 2 0 = true := by decide +kernel
theorem grid_23 : allTo (gridB 2 3) 3 0 = true := by decide +kernel
theorem grid_31 : allTo (gridB 3 1) 2 0 = true := by decide +kernel
theorem grid_32 : allTo (gridB 3 2) 5 0 = true := by decide +kernel
theorem grid_33 : allTo (gridB 3 3) 8 0 = true := by decide +kernel
theorem grid_41 : allTo (gridB 4 1) 3 0 = true := by decide +kernel
theorem grid_42 : allTo (gridB 4 2) 8 0 = true := by decide +kernel
theorem grid_43_0 : allTo (gridB 4 3) 10 0 = true := by decide +kernel
theorem grid_43_1 : allTo (gridB 4 3) 10 1024 = true := by decide +kernel
theorem grid_43_2 : allTo (gridB 4 3) 10 2048 = true := by decide +kernel
theorem grid_43_3 : allTo (gridB 4 3) 10 3072 = true := by decide +kernel
theorem grid_43_4 : allTo (gridB 4 3) 10 4096 = true := by decide +kernel
theorem grid_43_5 : allTo (gridB 4 3) 10 5120 = true := by decide +kernel
theorem grid_43_6 : allTo (gridB 4 3) 10 6144 = true := by decide +kernel
theorem grid_43_7 : allTo (gridB 4 3) 10 7168 = true := by decide +kernel
theorem grid_43 : allTo (gridB 4 3) 13 0 = true := by
  rw [allTo_iff]
  intro s hs
  rw [Nat.zero_add]
  have part : ∀ k, allTo (gridB 4 3) 10 (k * 1024) = true → k * 1024 ≤ s → s < k * 1024 + 1024 → gridB 4 3 s = true := fun k h h1 h2 => by
    have := (allTo_iff _ _).1 h (s - k * 1024) (by omega)
    rwa [show k * 1024 + (s - k * 1024) = s by omega] at this
  rcases (show s < 1024 ∨ (1024 ≤ s ∧ s < 2048) ∨ (2048 ≤ s ∧ s < 3072) ∨ (3072 ≤ s ∧ s < 4096) ∨ (4096 ≤ s ∧ s < 5120) ∨ (5120 ≤ s ∧ s < 6144) ∨ (6144 ≤ s ∧ s < 7168) ∨ 7168 ≤ s by omega) with h | h | h | h | h | h | h | h
  · exact part 0 grid_43_0 (by omega) (by omega)
  · exact part 1 grid_43_1 (by omega) (by omega)
  · exact part 2 grid_43_2 (by omega) (by omega)
  · exact part 3 grid_43_3 (by omega) (by omega)
  · exact part 4 grid_43_4 (by omega) (by omega)
  · exact part 5 grid_43_5 (by omega) (by omega)
  · exact part 6 grid_43_6 (by omega) (by omega)
  · exact part 7 grid_43_7 (by omega) (by omega)
theorem grid_all {w h s : Nat} (hw : 2 ≤ w ∧ w ≤ 4) (hh : 1 ≤ h ∧ h ≤ 3) (hs : s < 2 ^ gridE w h) : gridB w h s = true := by
  have H : allTo (gridB w h) (gridE w h) 0 = true := by
    rcases (show w = 2 ∨ w = 3 ∨ w = 4 by omega) with rfl | rfl | rfl <;> rcases (show h = 1 ∨ h = 2 ∨ h = 3 by omega) with rfl | rfl | rfl
    · exact grid_21
    · exact grid_22
    · exact grid_23
    · exact grid_31
    · exact grid_32
    · exact grid_33
    · exact grid_41
    · exact grid_42
    · exact grid_43
  have := (allTo_iff _ _).1 H s hs
  rwa [Nat.zero_add] at this
/-- Either edges lead across, or one passes. -/
theorem grid_one {w h s : Nat} (hw : 2 ≤ w ∧ w ≤ 4) (hh : 1 ≤ h ∧ h ≤ 3) (hs : s < 2 ^ gridE w h) : leadsN w h s = !passesN w h s := by
  have := grid_all hw hh hs
  unfold gridB at this
  simp only [Bool.and_eq_true] at this
  have H : ((leadD w h s &&& colR w h == 0) != (passD w h s &&& fdT w h == 0)) = true := this.2.2
  unfold leadsN passesN
  revert H
  cases (leadD w h s &&& colR w h == 0) <;> cases (passD w h s &&& fdT w h == 0) <;> simp
theorem pt_shape : ∀ w, w < 5 → ∀ h, h < 4 → ∀ a, a < w * h → (a % w + 1 < w → a + 1 < w * h) ∧ (a / w + 1 < h → a + w < w * h) := by decide +kernel
theorem fd_shape : ∀ w, w < 5 → ∀ h, h < 4 → ∀ a, a < (w - 1) * (h + 1) → (a % (w - 1) + 1 < w - 1 → a + 1 < (w - 1) * (h + 1)) ∧ (a / (w - 1) < h → a + (w - 1) < (w - 1) * (h + 1)) := by decide +kernel
theorem side_shape : ∀ w, w < 5 → ∀ h, h < 4 → 1 ≤ w → colL w h < 2 ^ (w * h) ∧ rowLow (w - 1) < 2 ^ ((w - 1) * (h + 1)) := by decide +kernel
theorem bit_below {x n i : Nat} (h : x < 2 ^ n) (hi : x.testBit i = true) : i < n := Nat.lt_of_not_le fun hn => by
  rw [Nat.testBit_lt_two_pow (Nat.lt_of_lt_of_le h (Nat.pow_le_pow_right (by omega) hn))] at hi; cases hi
theorem lead_reach {w h s : Nat} (hw : 2 ≤ w ∧ w ≤ 4) (hh : 1 ≤ h ∧ h ≤ 3) (hs : s < 2 ^ gridE w h) : Reach (adjG w (ptH w h s) (ptV w h s)) (w * h) (2 ^ (w * h) - 1) (colL w h) (leadD w h s) := by
  have := grid_all hw hh hs
  unfold gridB at this
  simp only [Bool.and_eq_true] at this
  refine floodG_is (fun a ha => ?_) (fun a ha => ?_) (fun i hi => bit_below (side_shape w (by omega) h (by omega) (by omega)).1 hi) this.1
  · unfold ptH at ha
    rw [maskOf_bit] at ha
    simp only [Bool.and_eq_true, decide_eq_true_eq] at ha
    exact (pt_shape w (by omega) h (by omega) a ha.1).1 ha.2.1
  · unfold ptV at ha
    rw [maskOf_bit] at ha
    simp only [Bool.and_eq_true, decide_eq_true_eq] at ha
    exact (pt_shape w (by omega) h (by omega) a ha.1).2 ha.2.2.2.1
theorem pass_reach {w h s : Nat} (hw : 2 ≤ w ∧ w ≤ 4) (hh : 1 ≤ h ∧ h ≤ 3) (hs : s < 2 ^ gridE w h) : Reach (adjG (w - 1) (fdH w h s) (fdV w h s)) ((w - 1) * (h + 1)) (2 ^ ((w - 1) * (h + 1)) - 1) (rowLow (w - 1)) (passD w h s) := by
  have := grid_all hw hh hs
  unfold gridB at this
  simp only [Bool.and_eq_true] at this
  refine floodG_is (fun a ha => ?_) (fun a ha => ?_) (fun i hi => bit_below (side_shape w (by omega) h (by omega) (by omega)).2 hi) this.2.1
  · unfold fdH at ha
    rw [maskOf_bit] at ha
    simp only [Bool.and_eq_true, decide_eq_true_eq] at ha
    exact (fd_shape w (by omega) h (by omega) a ha.1).1 ha.2.1
  · unfold fdV at ha
    rw [maskOf_bit] at ha
    simp only [Bool.and_eq_true, decide_eq_true_eq] at ha
    exact (fd_shape w (by omega) h (by omega) a ha.1).2 ha.2.1
theorem leads_is {w h s D : Nat} (hw : 2 ≤ w ∧ w ≤ 4) (hh : 1 ≤ h ∧ h ≤ 3) (hs : s < 2 ^ gridE w h) (H : Reach (adjG w (ptH w h s) (ptV w h s)) (w * h) (2 ^ (w * h) - 1) (colL w h) D) : (!(D &&& colR w h == 0)) = leadsN w h s := by
  rw [H.unique (lead_reach hw hh hs)]; rfl
theorem passes_is {w h s D : Nat} (hw : 2 ≤ w ∧ w ≤ 4) (hh : 1 ≤ h ∧ h ≤ 3) (hs : s < 2 ^ gridE w h) (H : Reach (adjG (w - 1) (fdH w h s) (fdV w h s)) ((w - 1) * (h + 1)) (2 ^ ((w - 1) * (h + 1)) - 1) (rowLow (w - 1)) D) : (!(D &&& fdT w h == 0)) = passesN w h s := by
  rw [H.unique (pass_reach hw hh hs)]; rfl
theorem adjG_mono {w H V H' V' a b : Nat} (hH : ∀ i, H.testBit i = true → H'.testBit i = true) (hV : ∀ i, V.testBit i = true → V'.testBit i = true) (h : adjG w H V a b = true) : adjG w H' V' a b = true := by
  unfold adjG at *
  simp only [Bool.or_eq_true, Bool.and_eq_true, beq_iff_eq] at *
  rcases h with (((⟨e, h2⟩ | ⟨e, h2⟩) | ⟨e, h2⟩) | ⟨e, h2⟩)
  · exact .inl (.inl (.inl ⟨e, hH _ h2⟩))
  · exact .inl (.inl (.inr ⟨e, hH _ h2⟩))
  · exact .inl (.inr ⟨e, hV _ h2⟩)
  · exact .inr ⟨e, hV _ h2⟩
/-- With more edges there it still holds. -/
theorem leads_mono {w h s s' : Nat} (hw : 2 ≤ w ∧ w ≤ 4) (hh : 1 ≤ h ∧ h ≤ 3) (hs : s < 2 ^ gridE w h) (hs' : s' < 2 ^ gridE w h) (hb : ∀ i, s.testBit i = true → s'.testBit i = true) (hd : leadsN w h s = true) : leadsN w h s' = true := by
  refine across_mono ((lead_reach hw hh hs).mono (lead_reach hw hh hs') (fun a b _ _ ht => adjG_mono (fun i hi => ?_) (fun i hi => ?_) ht) fun _ h => h) hd
  · unfold ptH at hi ⊢
    rw [maskOf_bit] at hi ⊢
    simp only [Bool.and_eq_true] at hi ⊢
    exact ⟨hi.1, hi.2.1, hb _ hi.2.2⟩
  · unfold ptV at hi ⊢
    rw [maskOf_bit] at hi ⊢
    simp only [Bool.and_eq_true] at hi ⊢
    exact ⟨hi.1, hi.2.1, hi.2.2.1, hi.2.2.2.1, hb _ hi.2.2.2.2⟩
theorem passes_mono {w h s s' : Nat} (hw : 2 ≤ w ∧ w ≤ 4) (hh : 1 ≤ h ∧ h ≤ 3) (hs : s < 2 ^ gridE w h) (hs' : s' < 2 ^ gridE w h) (hb : ∀ i, s'.testBit i = true → s.testBit i = true) (hd : passesN w h s = true) : passesN w h s' = true := by
  cases hl : passesN w h s' with
  | true => rfl
  | false =>
    have h1 := grid_one hw hh hs'
    rw [hl] at h1
    have h2 := leads_mono hw hh hs' hs hb h1
    rw [grid_one hw hh hs, hd] at h2
    cases h2
end Go.Proofs.Ytcmomghlepmogaa
