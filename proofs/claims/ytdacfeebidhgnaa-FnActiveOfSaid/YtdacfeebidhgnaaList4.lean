/- Plain facts: paths and cuts as lists, and how many are apart, as the walks put them together; bits of small numbers. -/
import Derived.Test.YtdacfeebidhgnaaPaths
import Derived.Test.YtdacfeebidhgnaaBothL
import Derived.Test.YtdacfeebidhgnaaRow
import Derived.Laws.BitsLemmas
namespace Go.Proofs.Ytdacfeebidhgnaa
open Go.RowKit
set_option maxRecDepth 100000

theorem wraps_i64 (n : Int) (h₀ : 0 ≤ n) (h₁ : n < 2 ^ 62) : IntKind.i64.wrap n = n := by
  have : (2 : Int) ^ 62 = 4611686018427387904 := by decide
  exact IntWalk.i64_in _ (by omega)
theorem and_i64 {a b : Nat} (ha : a < 512) (hb : b < 512) : Go.bits .and .i64 (a : Int) (b : Int) = ((a &&& b : Nat) : Int) := by
  have h : (512 : Nat) ≤ 2 ^ 62 := by decide
  exact (bits_nat .i64 62 (by decide) wraps_i64 a b (by omega) (by omega)).1
theorem or_i64 {a b : Nat} (ha : a < 512) (hb : b < 512) : Go.bits .or .i64 (a : Int) (b : Int) = ((a ||| b : Nat) : Int) := by
  have h : (512 : Nat) ≤ 2 ^ 62 := by decide
  exact (bits_nat .i64 62 (by decide) wraps_i64 a b (by omega) (by omega)).2
theorem andNot_one (s k : Nat) (hs : s < 512) (hk : k < 9) (hb : s.testBit k = true) : Go.bits .andNot .i64 (s : Int) (wrap64 (2 ^ k)) = ((s - 2 ^ k : Nat) : Int) := by
  revert s; revert k; decide +kernel
theorem andNot_all (l s : Nat) (hl : l < 10) (h : s < 512) (hs : s < 2 ^ l) : Go.bits .andNot .i64 ((2 ^ l - 1 : Nat) : Int) (s : Int) = ((2 ^ l - 1 - s : Nat) : Int) := by
  revert s; revert l; decide +kernel

/-- Natural numbers as integers. -/
def natI (xs : List Nat) : List Int := xs.map fun x : Nat => (x : Int)
theorem natI_length (xs : List Nat) : (natI xs).length = xs.length := by simp [natI]
theorem natI_get {xs : List Nat} {k : Nat} {x : Nat} (h : xs[k]? = some x) : (natI xs)[k]? = some (x : Int) := by simp [natI, h]
theorem natI_getD (xs : List Nat) (k : Nat) : (natI xs).getD k 0 = (xs.getD k 0 : Nat) := by
  simp only [natI, List.getD, List.getElem?_map]
  cases xs[k]? <;> simp
theorem natI_append (xs ys : List Nat) : natI (xs ++ ys) = natI xs ++ natI ys := by simp [natI]
theorem natI_drop (xs : List Nat) (k : Nat) : natI (xs.drop k) = (natI xs).drop k := by simp [natI, List.map_drop]
theorem natI_filter (xs : List Nat) (q : Int → Bool) : (natI xs).filter q = natI (xs.filter fun x => q (x : Int)) := by
  simp only [natI, List.filter_map]; rfl
theorem take_filter_succ {α : Type} (q : α → Bool) {xs : List α} {k : Nat} (h : k < xs.length) : (xs.take (k + 1)).filter q = (xs.take k).filter q ++ (if q xs[k] = true then [xs[k]] else []) := by
  rw [List.take_succ_eq_append_getElem h, List.filter_append]
  congr 1
  simp only [List.filter_cons, List.filter_nil]

/-- What the functions of paths and cuts say. -/
def pathsN (n : Int) (es : List (Int × Int)) (a b : Int) : List Nat := if joinOkB n es a b = true then leastL es.length (joinS es a.toNat b.toNat) else []
def cutsN (n : Int) (es : List (Int × Int)) (a b : Int) : List Nat := if joinOkB n es a b = true then leastL es.length (dual es.length (joinS es a.toNat b.toNat)) else []
def apartI (n : Int) (es : List (Int × Int)) (a b : Int) : Int := if joinOkB n es a b = true then (aparts (pathsN n es a b) 0 : Nat) else -1
theorem leastL_len {l : Nat} (J : Nat → Bool) (hl : l ≤ 9) : (leastL l J).length ≤ 512 := by
  unfold leastL
  refine Nat.le_trans (List.length_filter_le _ _) ?_
  rw [List.length_range]
  exact Nat.pow_le_pow_right (n := 2) (by omega) hl
theorem joinOk_nine {n : Int} {es : List (Int × Int)} {a b : Int} (h : joinOkB n es a b = true) : es.length ≤ 9 := (netOkB_iff.1 (joinOkB_iff.1 h).1).2.1
theorem pathsN_len (n : Int) (es : List (Int × Int)) (a b : Int) : (pathsN n es a b).length ≤ 512 := by
  unfold pathsN
  split
  · next h => exact leastL_len _ (joinOk_nine h)
  · simp
theorem cutsN_len (n : Int) (es : List (Int × Int)) (a b : Int) : (cutsN n es a b).length ≤ 512 := by
  unfold cutsN
  split
  · next h => exact leastL_len _ (joinOk_nine h)
  · simp
theorem leastL_lt {l : Nat} {J : Nat → Bool} (hl : l ≤ 9) {x : Nat} (h : x ∈ leastL l J) : x < 512 :=
  Nat.lt_of_lt_of_le (mem_leastL.1 h).1 (Nat.pow_le_pow_right (n := 2) (by omega) hl)
theorem pathsN_lt {n : Int} {es : List (Int × Int)} {a b : Int} {x : Nat} (h : x ∈ pathsN n es a b) : x < 512 := by
  unfold pathsN at h
  split at h
  · next h1 => exact leastL_lt (joinOk_nine h1) h
  · simp at h
theorem cutsN_lt {n : Int} {es : List (Int × Int)} {a b : Int} {x : Nat} (h : x ∈ cutsN n es a b) : x < 512 := by
  unfold cutsN at h
  split at h
  · next h1 => exact leastL_lt (joinOk_nine h1) h
  · simp at h
theorem natPaths_len (n : Int) (es : List (Int × Int)) (a b : Int) : (natI (pathsN n es a b)).length ≤ 512 := by rw [natI_length]; exact pathsN_len n es a b
theorem natCuts_len (n : Int) (es : List (Int × Int)) (a b : Int) : (natI (cutsN n es a b)).length ≤ 512 := by rw [natI_length]; exact cutsN_len n es a b
/-- Without some one of it, it works. -/
def lessB (l : Nat) (J : Nat → Bool) (s : Nat) : Bool := (List.range l).any fun k => s.testBit k && J (s - 2 ^ k)
theorem lessB_to (J : Nat → Bool) (s : Nat) (k : Nat) : ((List.range (k + 1)).any fun k => s.testBit k && J (s - 2 ^ k)) = (((List.range k).any fun k => s.testBit k && J (s - 2 ^ k)) || (s.testBit k && J (s - 2 ^ k))) := by
  rw [List.range_succ, List.any_append]; simp
theorem least_less (l : Nat) (J : Nat → Bool) (s : Nat) : leastB l J s = (J s && !lessB l J s) := by
  unfold leastB lessB
  rw [List.not_any_eq_all_not]
  congr 1
  apply congrArg (fun f => (List.range l).all f)
  funext k
  cases s.testBit k <;> simp
theorem lessB_one {l : Nat} {J : Nat → Bool} {s k : Nat} (hk : k < l) (h : (s.testBit k && J (s - 2 ^ k)) = true) : lessB l J s = true := by
  unfold lessB; rw [List.any_eq_true]; exact ⟨k, by simpa using hk, h⟩
/-- The reference's test, edge by edge. -/
def leastTo (J : Nat → Bool) (s : Nat) : Nat → Bool
  | 0 => J s
  | k + 1 => leastTo J s k && (!s.testBit k || !J (s - 2 ^ k))
theorem leastTo_all (J : Nat → Bool) (s : Nat) : ∀ l, leastTo J s l = leastB l J s
  | 0 => by simp [leastTo, leastB]
  | l + 1 => by rw [leastTo, leastTo_all J s l]; unfold leastB; rw [List.range_succ, List.all_append, ← Bool.and_assoc]; simp
theorem leastTo_false {J : Nat → Bool} {s k : Nat} (h : leastTo J s k = false) : ∀ l, k ≤ l → leastTo J s l = false
  | l, hl => by
    induction l with
    | zero => have : k = 0 := by omega
              subst this; exact h
    | succ l ih =>
      by_cases e : k = l + 1
      · subst e; exact h
      · rw [leastTo, ih (by omega)]; rfl
/-- The first k states' least ones. -/
def leastK (l : Nat) (J : Nat → Bool) (k : Nat) : List Nat := (List.range k).filter (leastB l J)
theorem leastK_hit {l : Nat} {J : Nat → Bool} {k : Nat} (h : leastB l J k = true) : leastK l J (k + 1) = leastK l J k ++ [k] := by
  unfold leastK; rw [List.range_succ, List.filter_append]; simp [h]
theorem leastK_miss {l : Nat} {J : Nat → Bool} {k : Nat} (h : leastB l J k = false) : leastK l J (k + 1) = leastK l J k := by
  unfold leastK; rw [List.range_succ, List.filter_append]; simp [h]
theorem leastK_len (l : Nat) (J : Nat → Bool) (k : Nat) : (leastK l J k).length ≤ k := by
  unfold leastK; exact Nat.le_trans (List.length_filter_le _ _) (by simp)
theorem leastK_all (l : Nat) (J : Nat → Bool) : leastK l J (2 ^ l) = leastL l J := rfl

/-- How many are apart, with what is taken left out. -/
theorem aparts_filter : ∀ (xs : List Nat) (u v : Nat), aparts xs (u ||| v) = aparts (xs.filter fun y => decide (y &&& u = 0)) v
  | [], u, v => by simp [aparts]
  | x :: xs, u, v => by
    have hor : x &&& (u ||| v) = 0 ↔ x &&& u = 0 ∧ x &&& v = 0 := by
      rw [disj_iff, disj_iff, disj_iff]
      constructor
      · intro h
        refine ⟨fun i hi => ?_, fun i hi => ?_⟩ <;>
        · have := h i hi
          rw [Nat.testBit_or, Bool.or_eq_false_iff] at this
          first | exact this.1 | exact this.2
      · rintro ⟨h1, h2⟩ i hi
        rw [Nat.testBit_or, h1 i hi, h2 i hi]; rfl
    by_cases hu : x &&& u = 0
    · rw [List.filter_cons, if_pos (by simpa using hu), aparts, aparts, aparts_filter xs u v]
      by_cases hv : x &&& v = 0
      · rw [if_pos (hor.2 ⟨hu, hv⟩), if_pos hv, Nat.or_assoc, aparts_filter xs u (v ||| x)]
      · rw [if_neg (fun h => hv (hor.1 h).2), if_neg hv]
    · rw [List.filter_cons, if_neg (by simpa using hu), aparts, if_neg (fun h => hu (hor.1 h).1), aparts_filter xs u v, Nat.max_eq_left (by omega)]
theorem aparts_len : ∀ (xs : List Nat) (u : Nat), aparts xs u ≤ xs.length
  | [], u => by simp [aparts]
  | x :: xs, u => by
    have h1 := aparts_len xs u
    have h2 := aparts_len xs (u ||| x)
    rw [aparts, List.length_cons]
    split <;> omega
/-- What the program puts together: the first k as first ones. -/
def mostTo (xs : List Nat) : Nat → Nat
  | 0 => 0
  | k + 1 => max (mostTo xs k) (1 + aparts ((xs.drop (k + 1)).filter fun y => decide (y &&& xs.getD k 0 = 0)) 0)
theorem mostTo_cons (x : Nat) (xs : List Nat) : ∀ k, mostTo (x :: xs) (k + 1) = max (1 + aparts (xs.filter fun y => decide (y &&& x = 0)) 0) (mostTo xs k)
  | 0 => by simp [mostTo]
  | k + 1 => by
    rw [mostTo, mostTo_cons x xs k, mostTo]
    simp only [List.drop_succ_cons, List.getD_cons_succ]
    exact Nat.max_assoc _ _ _
theorem mostTo_all : ∀ xs : List Nat, mostTo xs xs.length = aparts xs 0
  | [] => rfl
  | x :: xs => by
    rw [List.length_cons, mostTo_cons, mostTo_all xs, aparts]
    have h : aparts xs (0 ||| x) = aparts (xs.filter fun y => decide (y &&& x = 0)) 0 := by
      rw [Nat.zero_or]; have := aparts_filter xs x 0; rwa [Nat.or_zero] at this
    rw [if_pos (Nat.and_zero x), h, Nat.max_comm]
theorem mostTo_le (xs : List Nat) : ∀ k, mostTo xs k ≤ xs.length + 1
  | 0 => by simp [mostTo]
  | k + 1 => by
    have h1 := mostTo_le xs k
    have h2 := aparts_len ((xs.drop (k + 1)).filter fun y => decide (y &&& xs.getD k 0 = 0)) 0
    have h3 := List.length_filter_le (fun y => decide (y &&& xs.getD k 0 = 0)) (xs.drop (k + 1))
    rw [List.length_drop] at h3
    rw [mostTo]; omega
/-- What the reference puts together: from 'i' on, j of them as first ones. -/
def topTo (xs : List Nat) (u i : Nat) : Nat → Nat
  | 0 => 0
  | j + 1 => max (topTo xs u i j) (if xs.getD (i + j) 0 &&& u = 0 then 1 + aparts (xs.drop (i + j + 1)) (u ||| xs.getD (i + j) 0) else 0)
theorem topTo_cons (x : Nat) (xs : List Nat) (u : Nat) : ∀ j, topTo (x :: xs) u 0 (j + 1) = max (if x &&& u = 0 then 1 + aparts xs (u ||| x) else 0) (topTo xs u 0 j)
  | 0 => by simp [topTo]
  | j + 1 => by
    rw [topTo, topTo_cons x xs u j, topTo]
    simp only [Nat.zero_add, List.drop_succ_cons, List.getD_cons_succ]
    exact Nat.max_assoc _ _ _
theorem topTo_zero : ∀ (xs : List Nat) (u : Nat), topTo xs u 0 xs.length = aparts xs u
  | [], u => rfl
  | x :: xs, u => by rw [List.length_cons, topTo_cons, topTo_zero xs u, aparts, Nat.max_comm]
theorem topTo_drop (xs : List Nat) (u i : Nat) : ∀ j, topTo xs u i j = topTo (xs.drop i) u 0 j
  | 0 => rfl
  | j + 1 => by
    rw [topTo, topTo, topTo_drop xs u i j]
    simp only [Nat.zero_add, List.drop_drop]
    have e : (xs.drop i).getD j 0 = xs.getD (i + j) 0 := by simp [List.getD, List.getElem?_drop]
    rw [e, show i + (j + 1) = i + j + 1 by omega]
theorem topTo_all (xs : List Nat) (i : Nat) (u : Nat) : topTo xs u i (xs.length - i) = aparts (xs.drop i) u := by
  rw [topTo_drop, ← topTo_zero (xs.drop i) u, List.length_drop]
theorem topTo_le (xs : List Nat) (u i : Nat) : ∀ j, topTo xs u i j ≤ xs.length + 1
  | 0 => by simp [topTo]
  | j + 1 => by
    have h1 := topTo_le xs u i j
    have h2 := aparts_len (xs.drop (i + j + 1)) (u ||| xs.getD (i + j) 0)
    rw [List.length_drop] at h2
    rw [topTo]; split <;> omega
end Go.Proofs.Ytdacfeebidhgnaa
