/- Chances: the values of WaysOf, JoinedWays, WholeWays and AllWays, and plain facts on them. -/
import Derived.Test.YtdacfeebidhgnaaWays
import Derived.Test.YtdacfeebidhgnaaBothL
namespace Go.Proofs.Ytdacfeebidhgnaa
set_option maxRecDepth 100000

def chanceB (p m : Int) : Bool := decide (1 ≤ m ∧ m ≤ 5 ∧ 0 ≤ p ∧ p ≤ m)
theorem chanceB_iff {p m : Int} : chanceB p m = true ↔ 1 ≤ m ∧ m ≤ 5 ∧ 0 ≤ p ∧ p ≤ m := by simp [chanceB]
theorem chanceB_not {p m : Int} : chanceB p m = false ↔ ¬ (1 ≤ m ∧ m ≤ 5 ∧ 0 ≤ p ∧ p ≤ m) := by simp [chanceB]
theorem chanceB_rest (p m : Int) : chanceB (m - p) m = chanceB p m := by
  rw [Bool.eq_iff_iff, chanceB_iff, chanceB_iff]; omega
def rowB (xs : List Int) : Bool := xs.all fun x => decide (0 ≤ x ∧ x ≤ 1000)
theorem rowB_iff {xs : List Int} : rowB xs = true ↔ ∀ k, k < xs.length → 0 ≤ xs.getD k 0 ∧ xs.getD k 0 ≤ 1000 := by
  unfold rowB
  rw [List.all_eq_true]
  constructor
  · intro h k hk
    have e : xs.getD k 0 = xs[k] := by simp [List.getD, hk]
    have := h _ (List.getElem_mem hk)
    rw [e]; simpa using this
  · intro h x hx
    obtain ⟨k, hk, rfl⟩ := List.getElem_of_mem hx
    have e : xs.getD k 0 = xs[k] := by simp [List.getD, hk]
    have := h k hk
    rw [e] at this; simpa using this
def waysB (xs : List Int) (p m : Int) : Bool := chanceB p m && (decide (1 ≤ xs.length ∧ xs.length ≤ 10) && rowB xs)
def cN (xs : List Int) (k : Nat) : Nat := (xs.getD k 0).toNat
def waysI (xs : List Int) (p m : Int) : Int := if waysB xs p m = true then ((wsum (cN xs) (xs.length - 1) p.toNat (m - p).toNat : Nat) : Int) else -1
theorem waysB_iff {xs : List Int} {p m : Int} : waysB xs p m = true ↔ chanceB p m = true ∧ (1 ≤ xs.length ∧ xs.length ≤ 10) ∧ ∀ k, k < xs.length → 0 ≤ xs.getD k 0 ∧ xs.getD k 0 ≤ 1000 := by
  simp [waysB, rowB_iff]
theorem waysI_ok {xs : List Int} {p m : Int} (h1 : chanceB p m = true) (h2 : 1 ≤ xs.length ∧ xs.length ≤ 10) (h3 : ∀ k, k < xs.length → 0 ≤ xs.getD k 0 ∧ xs.getD k 0 ≤ 1000) :
    waysI xs p m = ((wpart (cN xs) (xs.length - 1) p.toNat (m - p).toNat xs.length : Nat) : Int) := by
  rw [waysI, if_pos (waysB_iff.2 ⟨h1, h2, h3⟩), wsum, wpart, Nat.sub_add_cancel h2.1]
theorem waysI_chance {xs : List Int} {p m : Int} (h : chanceB p m = false) : waysI xs p m = -1 :=
  if_neg fun h' => by rw [(waysB_iff.1 h').1] at h; cases h
theorem waysI_len {xs : List Int} {p m : Int} (h : ¬ (1 ≤ xs.length ∧ xs.length ≤ 10)) : waysI xs p m = -1 :=
  if_neg fun h' => h (waysB_iff.1 h').2.1
theorem waysI_bad {xs : List Int} {p m : Int} {k : Nat} (hk : k < xs.length) (h : ¬ (0 ≤ xs.getD k 0 ∧ xs.getD k 0 ≤ 1000)) : waysI xs p m = -1 :=
  if_neg fun h' => h ((waysB_iff.1 h').2.2 k hk)
theorem waysI_low (xs : List Int) (p m : Int) : -1 ≤ waysI xs p m := by
  unfold waysI; split <;> omega
theorem pw_bound {x k : Nat} (hx : x ≤ 5) (hk : k ≤ 9) : x ^ k ≤ 1953125 :=
  Nat.le_trans (Nat.pow_le_pow_left hx k) (Nat.pow_le_pow_right (n := 5) (by omega) hk)
theorem pw_two {p r l k : Nat} (h : p + r ≤ 5) (hk : k ≤ l) (hl : l ≤ 9) : p ^ k * r ^ (l - k) ≤ 1953125 :=
  Nat.le_trans (pow_bound h hk) (pw_bound (Nat.le_refl 5) hl)
theorem wpart_next (c : Nat → Nat) (l p r k : Nat) : wpart c l p r (k + 1) = wpart c l p r k + c k * p ^ k * r ^ (l - k) := by
  rw [Nat.mul_assoc]; rfl
theorem wpart_small {c : Nat → Nat} {l p r : Nat} (hl : l ≤ 9) (hp : p + r ≤ 5) : ∀ j, j ≤ l + 1 → (∀ k, k < j → c k ≤ 1000) → wpart c l p r j ≤ j * 1953125000
  | 0, _, _ => by simp [wpart, sumN]
  | j + 1, hj, hc => by
    have h1 := wpart_small hl hp j (by omega) (fun k hk => hc k (by omega))
    have h2 : c j * (p ^ j * r ^ (l - j)) ≤ 1000 * 1953125 := Nat.mul_le_mul (hc j (by omega)) (pw_two hp (by omega) hl)
    have h3 : wpart c l p r (j + 1) = wpart c l p r j + c j * (p ^ j * r ^ (l - j)) := rfl
    omega
/-- What one step of the sum is made of: small enough. -/
theorem term_small {c l p r k : Nat} (hc : c ≤ 1000) (hl : l ≤ 9) (hp : p + r ≤ 5) (hk : k ≤ l) : c * p ^ k ≤ 1953125000 ∧ c * p ^ k * r ^ (l - k) ≤ 1953125000 := by
  constructor
  · exact Nat.mul_le_mul hc (pw_bound (by omega) (by omega))
  · rw [Nat.mul_assoc]; exact Nat.mul_le_mul hc (pw_two hp hk hl)
def allI (n : Int) (es : List (Int × Int)) (m : Int) : Int := if netOkB n es = true ∧ 1 ≤ m ∧ m ≤ 5 then ((m.toNat ^ es.length : Nat) : Int) else -1

/-- WaysOf: for no parts, for all parts, and for the row turned about. -/
theorem cN_le {xs : List Int} {p m : Int} (h : waysB xs p m = true) {k : Nat} (hk : k < xs.length) : cN xs k ≤ 1000 := by
  have := (waysB_iff.1 h).2.2 k hk
  unfold cN; omega
theorem waysI_none {xs : List Int} {p m : Int} (h : waysB xs p m = true) : waysI xs 0 m = ((cN xs 0 * m.toNat ^ (xs.length - 1) : Nat) : Int) := by
  obtain ⟨h1, h2, h3⟩ := waysB_iff.1 h
  have h1' := chanceB_iff.1 h1
  rw [waysI, if_pos (waysB_iff.2 ⟨chanceB_iff.2 (by omega), h2, h3⟩)]
  have : (m - 0).toNat = m.toNat := by omega
  rw [this, show (0 : Int).toNat = 0 from rfl, wsum_none]
theorem waysI_full {xs : List Int} {p m : Int} (h : waysB xs p m = true) : waysI xs m m = ((cN xs (xs.length - 1) * m.toNat ^ (xs.length - 1) : Nat) : Int) := by
  obtain ⟨h1, h2, h3⟩ := waysB_iff.1 h
  have h1' := chanceB_iff.1 h1
  rw [waysI, if_pos (waysB_iff.2 ⟨chanceB_iff.2 (by omega), h2, h3⟩)]
  have : (m - m).toNat = 0 := by omega
  rw [this, wsum_full]
theorem getD_rev (xs : List Int) {k : Nat} (hk : k < xs.length) : xs.reverse.getD k 0 = xs.getD (xs.length - 1 - k) 0 := by
  have h1 : k < xs.reverse.length := by simpa using hk
  have h2 : xs.length - 1 - k < xs.length := by omega
  simp [List.getD, hk, h2]
theorem waysB_rev {xs : List Int} {p m : Int} (h : waysB xs p m = true) : waysB xs.reverse (m - p) m = true := by
  obtain ⟨h1, h2, h3⟩ := waysB_iff.1 h
  refine waysB_iff.2 ⟨by rw [chanceB_rest]; exact h1, by simpa using h2, fun k hk => ?_⟩
  have hk' : k < xs.length := by simpa using hk
  rw [getD_rev xs hk']; exact h3 _ (by omega)
theorem waysI_rev {xs : List Int} {p m : Int} (h : waysB xs p m = true) : waysI xs.reverse (m - p) m = waysI xs p m := by
  obtain ⟨h1, h2, h3⟩ := waysB_iff.1 h
  have h1' := chanceB_iff.1 h1
  rw [waysI, if_pos (waysB_rev h), waysI, if_pos h, List.length_reverse]
  have e1 : (m - (m - p)).toNat = p.toNat := by omega
  rw [e1, ← wsum_rev (cN xs) (xs.length - 1) p.toNat (m - p).toNat]
  congr 1
  refine wsum_congr (fun k hk => ?_) _ _
  unfold cN
  rw [getD_rev xs (by omega)]

/-- The ways of joined nodes, of a whole net. -/
theorem chs_1000 {n k : Nat} (h : n ≤ 9) : chs n k ≤ 1000 :=
  Nat.le_trans (chs_pow n k) (Nat.le_trans (Nat.pow_le_pow_right (n := 2) (by omega) h) (by decide))
theorem waysI_row {c : Nat → Nat} {l : Nat} {p m : Int} (h : chanceB p m = true) (hl : l ≤ 9) (hc : ∀ k, k ≤ l → c k ≤ 1000) :
    waysI (rowL (fun k => ((c k : Nat) : Int)) (l + 1)) p m = ((wsum c l p.toNat (m - p).toNat : Nat) : Int) := by
  have hlen : (rowL (fun k => ((c k : Nat) : Int)) (l + 1)).length = l + 1 := rowL_length _ _
  have hget : ∀ k, k < l + 1 → (rowL (fun k => ((c k : Nat) : Int)) (l + 1)).getD k 0 = ((c k : Nat) : Int) := fun k hk => rowL_getD _ hk
  have hok : waysB (rowL (fun k => ((c k : Nat) : Int)) (l + 1)) p m = true := by
    refine waysB_iff.2 ⟨h, by rw [hlen]; omega, fun k hk => ?_⟩
    rw [hlen] at hk
    rw [hget k hk]
    have := hc k (by omega)
    omega
  rw [waysI, if_pos hok, hlen, Nat.add_sub_cancel]
  congr 1
  refine wsum_congr (fun k hk => ?_) _ _
  unfold cN
  rw [hget k (by omega)]
  rfl
section
variable {n : Int} {es : List (Int × Int)} {a b p m : Int}
theorem joinW_not (h : ¬ joinOkB n es a b = true) : waysI (joiningL n es a b) p m = -1 := by
  unfold joiningL
  rw [if_neg h]
  exact waysI_len (by simp)
theorem joinW_ok (h : joinOkB n es a b = true) (hc : chanceB p m = true) : waysI (joiningL n es a b) p m = ((wsum (joinC es a.toNat b.toNat) es.length p.toNat (m - p).toNat : Nat) : Int) := by
  have h9 := (netOkB_iff.1 (joinOkB_iff.1 h).1).2.1
  unfold joiningL
  rw [if_pos h]
  exact waysI_row hc h9 fun k _ => Nat.le_trans (joinC_le es _ _ k) (chs_1000 h9)
theorem wholeW_not (h : ¬ netOkB n es = true) : waysI (wholeL n es) p m = -1 := by
  unfold wholeL
  rw [if_neg h]
  exact waysI_len (by simp)
theorem wholeW_ok (h : netOkB n es = true) (hc : chanceB p m = true) : waysI (wholeL n es) p m = ((wsum (wholeC n es) es.length p.toNat (m - p).toNat : Nat) : Int) := by
  have h9 := (netOkB_iff.1 h).2.1
  unfold wholeL
  rw [if_pos h]
  exact waysI_row hc h9 fun k _ => Nat.le_trans (wholeC_le n es k) (chs_1000 h9)
theorem allI_ok (h : netOkB n es = true) (hm : 1 ≤ m ∧ m ≤ 5) : allI n es m = ((m.toNat ^ es.length : Nat) : Int) := if_pos ⟨h, hm⟩
theorem allI_bound (h : netOkB n es = true) (hm : 1 ≤ m ∧ m ≤ 5) : 1 ≤ allI n es m ∧ allI n es m ≤ 1953125 := by
  have h9 := (netOkB_iff.1 h).2.1
  rw [allI_ok h hm]
  have h1 := pw_bound (x := m.toNat) (k := es.length) (by omega) h9
  have h2 : 1 ≤ m.toNat ^ es.length := Nat.pow_pos (by omega)
  generalize m.toNat ^ es.length = z at *
  omega
/-- More parts are more ways. -/
theorem joinW_law (h : joinOkB n es a b = true) (hc : chanceB p m = true) :
    0 ≤ waysI (joiningL n es a b) p m ∧ (waysI (joiningL n es a b) (p + 1) m < 0 ∨ waysI (joiningL n es a b) p m ≤ waysI (joiningL n es a b) (p + 1) m) ∧ (0 < p ∨ waysI (joiningL n es a b) p m = 0) ∧ waysI (joiningL n es a b) p m ≤ allI n es m := by
  have hc' := chanceB_iff.1 hc
  have hn := (joinOkB_iff.1 h).1
  have hab := (joinOkB_iff.1 h).2.2.2
  have hr := (joinOkB_iff.1 h).2
  rw [joinW_ok h hc]
  refine ⟨Int.natCast_nonneg _, ?_, ?_, ?_⟩
  · by_cases hp : p = m
    · left; rw [waysI_chance (chanceB_not.2 (by omega))]; omega
    · right
      rw [joinW_ok h (chanceB_iff.2 (by omega))]
      have h1 := joinW_more es a.toNat b.toNat p.toNat (m - (p + 1)).toNat
      rw [show (m - (p + 1)).toNat + 1 = (m - p).toNat by omega, show p.toNat + 1 = (p + 1).toNat by omega] at h1
      exact Int.ofNat_le.2 h1
  · by_cases hp : 0 < p
    · exact .inl hp
    · right
      have : p = 0 := by omega
      subst this
      rw [show (0 : Int).toNat = 0 from rfl, wsum_none, joinC_zero es (by omega), Nat.zero_mul]; rfl
  · rw [allI_ok hn (by omega)]
    have h1 := joinW_all es a.toNat b.toNat p.toNat (m - p).toNat
    rw [show p.toNat + (m - p).toNat = m.toNat by omega] at h1
    exact Int.ofNat_le.2 h1
theorem wholeW_law (h : netOkB n es = true) (hc : chanceB p m = true) :
    0 ≤ waysI (wholeL n es) p m ∧ (waysI (wholeL n es) (p + 1) m < 0 ∨ waysI (wholeL n es) p m ≤ waysI (wholeL n es) (p + 1) m) ∧ waysI (wholeL n es) p m ≤ allI n es m := by
  have hc' := chanceB_iff.1 hc
  rw [wholeW_ok h hc]
  refine ⟨Int.natCast_nonneg _, ?_, ?_⟩
  · by_cases hp : p = m
    · left; rw [waysI_chance (chanceB_not.2 (by omega))]; omega
    · right
      rw [wholeW_ok h (chanceB_iff.2 (by omega))]
      have h1 := wholeW_more n es p.toNat (m - (p + 1)).toNat
      rw [show (m - (p + 1)).toNat + 1 = (m - p).toNat by omega, show p.toNat + 1 = (p + 1).toNat by omega] at h1
      exact Int.ofNat_le.2 h1
  · rw [allI_ok h (by omega)]
    have h1 := wholeW_all n es p.toNat (m - p).toNat
    rw [show p.toNat + (m - p).toNat = m.toNat by omega] at h1
    exact Int.ofNat_le.2 h1
/-- Without the edge times the parts that are left, and with its ends made one times the parts. -/
theorem wholeW_edge {at_ : Nat} (hn : netOkB n es = true) (h3 : 3 ≤ n) (hat : at_ < es.length) (h0 : mL n es at_ = 0) (hc : chanceB p m = true) (hw : netOkB n (wE n es at_) = true) (hm : netOkB (n - 1) (mE n es at_) = true) :
    waysI (wholeL n (wE n es at_)) p m * (m - p) + waysI (wholeL (n - 1) (mE n es at_)) p m * p = waysI (wholeL n es) p m := by
  have hc' := chanceB_iff.1 hc
  rw [wholeW_ok hn hc, wholeW_ok hw hc, wholeW_ok hm hc, wholeW_split hn h3 hat h0, Int.natCast_add, Int.natCast_mul, Int.natCast_mul, Int.mul_comm, Int.mul_comm _ p]
  rw [show ((m - p).toNat : Int) = m - p by omega, show (p.toNat : Int) = p by omega]
theorem allI_more {xs : List (Int × Int)} (h : netOkB n es = true) (hx : netOkB n xs = true) (hm : 1 ≤ m ∧ m ≤ 5) (hl : es.length = xs.length + 1) : allI n xs m * m = allI n es m := by
  rw [allI_ok h hm, allI_ok hx hm, hl, Nat.pow_succ, Int.natCast_mul, show (m.toNat : Int) = m by omega]
theorem allI_one (h : netOkB n es = true) : allI n es 1 = 1 := by
  rw [allI_ok h (by omega), show (1 : Int).toNat = 1 from rfl, Nat.one_pow]; rfl
end
end Go.Proofs.Ytdacfeebidhgnaa
