/- Plain facts: what the laws of paths and cuts ask. -/
import Derived.Test.YtlcgbmeneajfoabList4
namespace Go.Proofs.Ytlcgbmeneajfoab
set_option maxRecDepth 100000

section
variable {n : Int} {es : List (Int × Int)} {a b : Int}
theorem ok_parts (h : joinOkB n es a b = true) : netOkB n es = true ∧ es.length ≤ 9 ∧ (1 ≤ a.toNat ∧ (a.toNat : Int) ≤ n) ∧ (1 ≤ b.toNat ∧ (b.toNat : Int) ≤ n) ∧ a.toNat ≠ b.toNat := by
  have h' := joinOkB_iff.1 h
  exact ⟨h'.1, joinOk_nine h, by omega, by omega, by omega⟩
theorem mem_pathsN (h : joinOkB n es a b = true) {x : Nat} : x ∈ pathsN n es a b ↔ x < 2 ^ es.length ∧ leastB es.length (joinS es a.toNat b.toNat) x = true := by
  rw [pathsN, if_pos h]; exact mem_leastL
theorem mem_cutsN (h : joinOkB n es a b = true) {x : Nat} : x ∈ cutsN n es a b ↔ x < 2 ^ es.length ∧ leastB es.length (dual es.length (joinS es a.toNat b.toNat)) x = true := by
  rw [cutsN, if_pos h]; exact mem_leastL
theorem pathsN_swap : pathsN n es b a = pathsN n es a b := by
  have e : joinOkB n es b a = joinOkB n es a b := by
    rw [Bool.eq_iff_iff, joinOkB_iff, joinOkB_iff]
    constructor
    · rintro ⟨h1, h2, h3, h4⟩; exact ⟨h1, h3, h2, h4.symm⟩
    · rintro ⟨h1, h2, h3, h4⟩; exact ⟨h1, h3, h2, h4.symm⟩
  have e2 : joinS es b.toNat a.toNat = joinS es a.toNat b.toNat := funext fun s => joinS_swap es _ _ s
  unfold pathsN
  rw [e, e2]
theorem apartI_swap : apartI n es b a = apartI n es a b := by
  have e : joinOkB n es b a = joinOkB n es a b := by
    rw [Bool.eq_iff_iff, joinOkB_iff, joinOkB_iff]
    constructor
    · rintro ⟨h1, h2, h3, h4⟩; exact ⟨h1, h3, h2, h4.symm⟩
    · rintro ⟨h1, h2, h3, h4⟩; exact ⟨h1, h3, h2, h4.symm⟩
  unfold apartI
  rw [e, pathsN_swap]

/-- The least number from k on (up to m) with a count; -1 if there is none. -/
def LeastAt (c : Nat → Nat) (m k : Nat) (v : Int) : Prop :=
  (v = -1 ∧ ∀ j, k ≤ j → j ≤ m → c j = 0) ∨ ∃ j : Nat, v = j ∧ k ≤ j ∧ j ≤ m ∧ 0 < c j ∧ ∀ i, k ≤ i → i < j → c i = 0
theorem LeastAt.start (c : Nat → Nat) (m : Nat) : LeastAt c m (m + 1) (-1) := .inl ⟨rfl, fun j h1 h2 => by omega⟩
theorem LeastAt.hit {c : Nat → Nat} {m k : Nat} (hk : k ≤ m) (h : 0 < c k) : LeastAt c m k k := .inr ⟨k, rfl, Nat.le_refl _, hk, h, fun i h1 h2 => by omega⟩
theorem LeastAt.miss {c : Nat → Nat} {m k : Nat} {v : Int} (hv : LeastAt c m (k + 1) v) (h : c k = 0) : LeastAt c m k v := by
  rcases hv with ⟨rfl, h1⟩ | ⟨j, rfl, h1, h2, h3, h4⟩
  · refine .inl ⟨rfl, fun j hj hm => ?_⟩
    by_cases e : j = k
    · rw [e]; exact h
    · exact h1 j (by omega) hm
  · refine .inr ⟨j, rfl, by omega, h2, h3, fun i hi hij => ?_⟩
    by_cases e : i = k
    · rw [e]; exact h
    · exact h4 i (by omega) hij
theorem LeastAt.low {c : Nat → Nat} {m k : Nat} {v : Int} (hv : LeastAt c m k v) : -1 ≤ v ∧ v ≤ m := by
  rcases hv with ⟨rfl, _⟩ | ⟨j, rfl, _, _, _⟩ <;> omega
/-- The shortest path is the least number of edges with which some state joins. -/
theorem short_law (h : joinOkB n es a b = true) {v : Int} (hv : LeastAt (joinC es a.toNat b.toNat) es.length 0 v) : minAll (pathsN n es a b) = v ∧ v < n := by
  obtain ⟨hn, h9, ha, hb, hab⟩ := ok_parts h
  have hn2 := (netOkB_iff.1 hn).1
  have hp : pathsN n es a b = leastL es.length (joinS es a.toNat b.toNat) := if_pos h
  by_cases he : leastL es.length (joinS es a.toNat b.toNat) = []
  · have hz := short_none hn ha hb he
    rcases hv with ⟨rfl, _⟩ | ⟨j, _, _, _, hj, _⟩
    · rw [hp, he]; exact ⟨rfl, by omega⟩
    · rw [hz j] at hj; omega
  · obtain ⟨w, hw, hpos, hzero, hlt⟩ := short_some hn ha hb he
    obtain ⟨p, hpm, hpe⟩ := minAll_in he
    have hwl : w ≤ es.length := by
      have h1 := pop_low (mem_leastL.1 hpm).1 h9
      omega
    rcases hv with ⟨rfl, h1⟩ | ⟨j, rfl, _, _, hj, hj2⟩
    · rw [h1 w (Nat.zero_le _) hwl] at hpos; omega
    · have : j = w := by
        rcases Nat.lt_trichotomy j w with h1 | h1 | h1
        · rw [hzero j h1] at hj; omega
        · exact h1
        · rw [hj2 w (Nat.zero_le _) h1] at hpos; omega
      subst this
      rw [hp]; exact ⟨hw, hlt⟩
theorem short_not (h : ¬ joinOkB n es a b = true) : minAll (pathsN n es a b) = -1 := by rw [pathsN, if_neg h]; rfl
theorem thin_not (h : ¬ joinOkB n es a b = true) : minAll (cutsN n es a b) = -1 := by rw [cutsN, if_neg h]; rfl
/-- The thinnest cut: as many as paths apart; at most the edges at either node. -/
theorem thin_law (h : joinOkB n es a b = true) : minAll (cutsN n es a b) = apartI n es a b ∧ 0 ≤ minAll (cutsN n es a b) ∧ minAll (cutsN n es a b) ≤ degI n es a ∧ minAll (cutsN n es a b) ≤ degI n es b := by
  obtain ⟨hn, h9, ha, hb, hab⟩ := ok_parts h
  obtain ⟨h1, h2⟩ := thin_apart hn hab
  have hc : cutsN n es a b = leastL es.length (dual es.length (joinS es a.toNat b.toNat)) := if_pos h
  have hp : pathsN n es a b = leastL es.length (joinS es a.toNat b.toNat) := if_pos h
  have hA : apartI n es a b = (aparts (pathsN n es a b) 0 : Nat) := if_pos h
  have e1 : ((a.toNat : Nat) : Int) = a := by omega
  have e2 : ((b.toNat : Nat) : Int) = b := by omega
  have d1 := h2 a.toNat (.inl rfl)
  have d2 := h2 b.toNat (.inr rfl)
  rw [e1] at d1
  rw [e2] at d2
  have n1 : nodeOkB n es a = true := by simp [nodeOkB, hn]; omega
  have n2 : nodeOkB n es b = true := by simp [nodeOkB, hn]; omega
  rw [hc, hA, hp, degI, degI, if_pos n1, if_pos n2]
  exact ⟨h1, by omega, d1, d2⟩
theorem apart_not (h : ¬ joinOkB n es a b = true) : apartI n es a b = -1 := if_neg h
/-- All edges. -/
theorem all_lt (l : Nat) : 2 ^ l - 1 < 2 ^ l := by have := Nat.one_le_two_pow (n := l); omega
theorem all_sub {l s : Nat} (h : s < 2 ^ l) : s &&& (2 ^ l - 1) = s := by
  rw [Nat.and_two_pow_sub_one_eq_mod, Nat.mod_eq_of_lt h]
theorem paths_none (h : joinOkB n es a b = true) : pathsN n es a b = [] ↔ joinS es a.toNat b.toNat (2 ^ es.length - 1) = false := by
  obtain ⟨hn, h9, ha, hb, hab⟩ := ok_parts h
  constructor
  · intro he
    cases hj : joinS es a.toNat b.toNat (2 ^ es.length - 1) with
    | false => rfl
    | true =>
      obtain ⟨p, hp1, hp2, _⟩ := (least_in h9 (joinS_up hn _ _) (all_lt _)).1 hj
      have := (mem_pathsN h).2 ⟨hp1, hp2⟩
      rw [he] at this; simp at this
  · intro hj
    refine List.eq_nil_iff_forall_not_mem.2 fun x hx => ?_
    obtain ⟨hx1, hx2⟩ := (mem_pathsN h).1 hx
    have := joinS_up hn a.toNat b.toNat x _ hx1 (all_lt _) (all_sub hx1) (least_iff.1 hx2).1
    rw [hj] at this; cases this
theorem apart_zero (h : joinOkB n es a b = true) : apartI n es a b = 0 ↔ joinS es a.toNat b.toNat (2 ^ es.length - 1) = false := by
  obtain ⟨hn, h9, ha, hb, hab⟩ := ok_parts h
  have hA : apartI n es a b = (aparts (pathsN n es a b) 0 : Nat) := if_pos h
  rw [← paths_none h, hA]
  constructor
  · intro h0
    cases hx : pathsN n es a b with
    | nil => rfl
    | cons x xs =>
      have hm : x ∈ pathsN n es a b := by rw [hx]; simp
      have hne : x ≠ 0 := fun e => by
        have := (least_iff.1 ((mem_pathsN h).1 hm).2).1
        rw [e, joinS_zero es hab] at this; cases this
      have := aparts_ge (pathsN n es a b) 0 [x] (fun q hq => by
        have : q = x := by simpa using hq
        subst this; exact ⟨hm, hne, by simp⟩) (by simp)
      simp at this; omega
  · intro he; rw [he]; rfl
theorem apart_times_law (h : joinOkB n es a b = true) (hs : 0 ≤ minAll (pathsN n es a b)) : apartI n es a b * minAll (pathsN n es a b) ≤ es.length := by
  obtain ⟨hn, h9, ha, hb, hab⟩ := ok_parts h
  have hA : apartI n es a b = (aparts (pathsN n es a b) 0 : Nat) := if_pos h
  obtain ⟨v, hv⟩ : ∃ v : Nat, minAll (pathsN n es a b) = v := ⟨(minAll (pathsN n es a b)).toNat, by omega⟩
  have h1 := apart_times h9 (v := v) (pathsN n es a b) 0 (fun x hx => ⟨((mem_pathsN h).1 hx).1, by have := minAll_le hx; omega⟩)
  have h2 := card_le (fun i => !(0 : Nat).testBit i) es.length
  rw [hA, hv, ← Int.natCast_mul]
  omega
theorem apartI_low (h : joinOkB n es a b = true) : 0 ≤ apartI n es a b ∧ apartI n es a b ≤ 512 := by
  have hA : apartI n es a b = (aparts (pathsN n es a b) 0 : Nat) := if_pos h
  have := aparts_len (pathsN n es a b) 0
  have := pathsN_len n es a b
  omega
theorem minAll_pop {xs : List Nat} : -1 ≤ minAll xs ∧ minAll xs ≤ 64 := by
  refine ⟨minTo_low _ _, ?_⟩
  by_cases h : xs = []
  · subst h; decide
  · obtain ⟨x, _, e⟩ := minAll_in h
    have := pop_le x
    omega

/-- No path (no cut) has all edges of another one. -/
theorem apart_pair {l : Nat} {J : Nat → Bool} (hl : l ≤ 9) (hJ : UpS l J) {xs : List Nat} (hx : xs = leastL l J) {j k : Nat} (hjk : j < k) (hk : k < xs.length) :
    xs.getD k 0 &&& xs.getD j 0 ≠ xs.getD j 0 ∧ xs.getD k 0 &&& xs.getD j 0 ≠ xs.getD k 0 := by
  subst hx
  have hlt := List.pairwise_iff_getElem.1 (leastL_sorted l J) j k (by omega) hk hjk
  have e1 : (leastL l J).getD k 0 = (leastL l J)[k] := by simp [List.getD, hk]
  have e2 : (leastL l J).getD j 0 = (leastL l J)[j] := by
    have : j < (leastL l J).length := by omega
    simp [List.getD, this]
  rw [e1, e2]
  have m1 := mem_leastL.1 (List.getElem_mem hk)
  have m2 := mem_leastL.1 (List.getElem_mem (show j < (leastL l J).length by omega))
  constructor
  · intro h
    have := least_anti hl hJ m2.1 m1.1 m2.2 m1.2 (by rw [Nat.and_comm]; exact h)
    omega
  · intro h
    have := least_anti hl hJ m1.1 m2.1 m1.2 m2.2 h
    omega
theorem getD_sorted {l : Nat} {J : Nat → Bool} {xs : List Nat} (hx : xs = leastL l J) {k : Nat} (hk : k + 1 < xs.length) : xs.getD k 0 < xs.getD (k + 1) 0 := by
  subst hx
  have hlt := List.pairwise_iff_getElem.1 (leastL_sorted l J) k (k + 1) (by omega) hk (by omega)
  have e1 : (leastL l J).getD (k + 1) 0 = (leastL l J)[k + 1] := by simp [List.getD, hk]
  have e2 : (leastL l J).getD k 0 = (leastL l J)[k] := by
    have : k < (leastL l J).length := by omega
    simp [List.getD, this]
  rw [e1, e2]; exact hlt
/-- Some of the first k has all its edges in s. -/
def hasTo (xs : List Nat) (s : Nat) : Nat → Bool
  | 0 => false
  | k + 1 => hasTo xs s k || decide (xs.getD k 0 &&& s = xs.getD k 0)
theorem hasTo_iff (xs : List Nat) (s : Nat) : ∀ k, hasTo xs s k = true ↔ ∃ i, i < k ∧ xs.getD i 0 &&& s = xs.getD i 0
  | 0 => by simp [hasTo]
  | k + 1 => by
    rw [hasTo, Bool.or_eq_true, hasTo_iff xs s k, decide_eq_true_eq]
    constructor
    · rintro (⟨i, h1, h2⟩ | h)
      · exact ⟨i, by omega, h2⟩
      · exact ⟨k, by omega, h⟩
    · rintro ⟨i, h1, h2⟩
      by_cases e : i = k
      · subst e; exact .inr h2
      · exact .inl ⟨i, by omega, h2⟩
/-- Each of the first k meets s. -/
def meetTo (xs : List Nat) (s : Nat) : Nat → Bool
  | 0 => true
  | k + 1 => meetTo xs s k && !decide (xs.getD k 0 &&& s = 0)
theorem meetTo_iff (xs : List Nat) (s : Nat) : ∀ k, meetTo xs s k = true ↔ ∀ i, i < k → xs.getD i 0 &&& s ≠ 0
  | 0 => by simp [meetTo]
  | k + 1 => by
    rw [meetTo, Bool.and_eq_true, meetTo_iff xs s k, Bool.not_eq_true', decide_eq_false_iff_not]
    constructor
    · rintro ⟨h1, h2⟩ i hi
      by_cases e : i = k
      · subst e; exact h2
      · exact h1 i (by omega)
    · intro h
      exact ⟨fun i hi => h i (by omega), h k (by omega)⟩
theorem getD_of_mem {xs : List Nat} {x : Nat} (h : x ∈ xs) : ∃ i, i < xs.length ∧ xs.getD i 0 = x := by
  obtain ⟨i, hi, rfl⟩ := List.getElem_of_mem h
  exact ⟨i, hi, by simp [List.getD, hi]⟩
theorem getD_in {xs : List Nat} {k : Nat} (h : k < xs.length) : xs.getD k 0 ∈ xs := by
  have : xs.getD k 0 = xs[k] := by simp [List.getD, h]
  rw [this]; exact List.getElem_mem h
theorem paths_has (h : joinOkB n es a b = true) {s : Nat} (hs : s < 2 ^ es.length) : hasTo (pathsN n es a b) s (pathsN n es a b).length = joinS es a.toNat b.toNat s := by
  obtain ⟨hn, h9, ha, hb, hab⟩ := ok_parts h
  rw [Bool.eq_iff_iff, hasTo_iff, least_in h9 (joinS_up hn _ _) hs]
  constructor
  · rintro ⟨i, hi, he⟩
    have hm := (mem_pathsN h).1 (getD_in hi)
    exact ⟨_, hm.1, hm.2, he⟩
  · rintro ⟨p, hp1, hp2, he⟩
    obtain ⟨i, hi, hip⟩ := getD_of_mem ((mem_pathsN h).2 ⟨hp1, hp2⟩)
    exact ⟨i, hi, by rw [hip]; exact he⟩
theorem cuts_meet (h : joinOkB n es a b = true) {s : Nat} (hs : s < 2 ^ es.length) : meetTo (cutsN n es a b) s (cutsN n es a b).length = joinS es a.toNat b.toNat s := by
  obtain ⟨hn, h9, ha, hb, hab⟩ := ok_parts h
  rw [Bool.eq_iff_iff, meetTo_iff, works_meets h9 (joinS_up hn _ _) hs]
  constructor
  · intro h1 c hc hlc
    obtain ⟨i, hi, hic⟩ := getD_of_mem ((mem_cutsN h).2 ⟨hc, hlc⟩)
    rw [← hic]; exact h1 i hi
  · intro h1 i hi
    have hm := (mem_cutsN h).1 (getD_in hi)
    exact h1 _ hm.1 hm.2
theorem path_meets_cut (h : joinOkB n es a b = true) {x c : Nat} (hx : x ∈ pathsN n es a b) (hc : c ∈ cutsN n es a b) : x &&& c ≠ 0 := by
  obtain ⟨hn, h9, ha, hb, hab⟩ := ok_parts h
  obtain ⟨x1, x2⟩ := (mem_pathsN h).1 hx
  obtain ⟨c1, c2⟩ := (mem_cutsN h).1 hc
  exact least_meets (joinS_up hn _ _) x1 c1 (least_iff.1 x2).1 (least_iff.1 c2).1
theorem paths_pair (h : joinOkB n es a b = true) {j k : Nat} (hjk : j < k) (hk : k < (pathsN n es a b).length) :
    (pathsN n es a b).getD k 0 &&& (pathsN n es a b).getD j 0 ≠ (pathsN n es a b).getD j 0 ∧ (pathsN n es a b).getD k 0 &&& (pathsN n es a b).getD j 0 ≠ (pathsN n es a b).getD k 0 := by
  obtain ⟨hn, h9, ha, hb, hab⟩ := ok_parts h
  exact apart_pair h9 (joinS_up hn _ _) (if_pos h) hjk hk
theorem cuts_pair (h : joinOkB n es a b = true) {j k : Nat} (hjk : j < k) (hk : k < (cutsN n es a b).length) :
    (cutsN n es a b).getD k 0 &&& (cutsN n es a b).getD j 0 ≠ (cutsN n es a b).getD j 0 ∧ (cutsN n es a b).getD k 0 &&& (cutsN n es a b).getD j 0 ≠ (cutsN n es a b).getD k 0 := by
  obtain ⟨hn, h9, ha, hb, hab⟩ := ok_parts h
  exact apart_pair h9 (joinS_up hn _ _).dual (if_pos h) hjk hk
theorem paths_sorted (h : joinOkB n es a b = true) {k : Nat} (hk : k + 1 < (pathsN n es a b).length) : (pathsN n es a b).getD k 0 < (pathsN n es a b).getD (k + 1) 0 :=
  getD_sorted (if_pos h) hk
theorem cuts_some (h : joinOkB n es a b = true) : 0 < (cutsN n es a b).length := by
  obtain ⟨hn, h9, ha, hb, hab⟩ := ok_parts h
  rw [cutsN, if_pos h]
  exact List.length_pos_iff.2 (cut_some hn hab)
theorem cuts_first (h : joinOkB n es a b = true) : (cutsN n es a b).getD 0 0 = 0 ↔ joinS es a.toNat b.toNat (2 ^ es.length - 1) = false := by
  obtain ⟨hn, h9, ha, hb, hab⟩ := ok_parts h
  have hpos := cuts_some h
  have hd : dual es.length (joinS es a.toNat b.toNat) 0 = !joinS es a.toNat b.toNat (2 ^ es.length - 1) := rfl
  constructor
  · intro h0
    have hm := (mem_cutsN h).1 (getD_in hpos)
    rw [h0] at hm
    have := (least_iff.1 hm.2).1
    rw [hd] at this; simpa using this
  · intro hj
    have hl0 : leastB es.length (dual es.length (joinS es a.toNat b.toNat)) 0 = true := least_iff.2 ⟨by rw [hd, hj]; rfl, fun k _ hk => by simp at hk⟩
    obtain ⟨i, hi, hi0⟩ := getD_of_mem ((mem_cutsN h).2 ⟨Nat.pow_pos (by omega), hl0⟩)
    by_cases e : i = 0
    · rw [e] at hi0; exact hi0
    · have := (cuts_pair h (show 0 < i by omega) hi).2
      rw [hi0] at this
      simp at this
end
end Go.Proofs.Ytlcgbmeneajfoab
