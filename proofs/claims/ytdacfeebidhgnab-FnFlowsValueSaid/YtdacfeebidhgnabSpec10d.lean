/- Chapter 10 of the reference: CountFlows. -/
import Derived.Test.YtdacfeebidhgnabSpec10a
import Derived.Test.YtdacfeebidhgnabSpec10c
import Derived.BigRegion
namespace Go.Proofs.Ytdacfeebidhgnab
open Go.RowKit
set_option maxRecDepth 100000

/-- What flows at each node over the first k edges, by the number s. -/
def accK (c : Nat) (l : List (Nat × Nat)) (s : Nat) : Nat → Nat → Int
  | 0 => fun _ => 0
  | k + 1 => match l[k]? with | some e => addF (accK c l s k) e (s / c ^ k % c + 1) | none => accK c l s k
theorem accK_next {c : Nat} {l : List (Nat × Nat)} {s k : Nat} {e : Nat × Nat} (h : l[k]? = some e) : accK c l s (k + 1) = addF (accK c l s k) e (s / c ^ k % c + 1) := by simp only [accK, h]
theorem accK_drop (c : Nat) (l : List (Nat × Nat)) (s : Nat) : ∀ k, k ≤ l.length → accF c (l.drop k) (s / c ^ k) (accK c l s k) = accF c l s fun _ => 0
  | 0, _ => by simp [accK]
  | k + 1, h => by
    rw [← accK_drop c l s k (by omega)]
    have he : l[k]? = some l[k] := List.getElem?_eq_getElem (by omega)
    rw [accK_next he, List.drop_eq_getElem_cons (show k < l.length by omega)]
    simp only [accF]
    rw [Nat.pow_succ, Nat.div_div_eq_div_mul]
theorem accK_all (c : Nat) (l : List (Nat × Nat)) (s : Nat) : accF c l s (fun _ => 0) = accK c l s l.length := by
  rw [← accK_drop c l s l.length (Nat.le_refl _), List.drop_length]; rfl
def flowQ (m n : Nat) (l : List (Nat × Nat)) (s : Nat) : Bool := balB m n (fun x => x) (accK (m - 1) l s l.length)
theorem flowQ_iff {m n : Nat} {l : List (Nat × Nat)} {s : Nat} : flowQ m n l s = true ↔ ∀ v, 1 ≤ v → v ≤ n → accK (m - 1) l s l.length v % (m : Int) = 0 := by
  unfold flowQ
  rw [balB_iff]
  constructor
  · intro h v h1 h2; have := h v h1 h2; rwa [clsum_id ⟨h1, h2⟩] at this
  · intro h v h1 h2; rw [clsum_id ⟨h1, h2⟩]; exact h v h1 h2
def flowsI (n : Int) (es : List (Int × Int)) (x : Int) : Int := if flowOkB n es x = true then ((cP (flowQ x.toNat n.toNat (endsL es)) ((x.toNat - 1) ^ es.length) : Nat) : Int) else -1
theorem flowsI_ok {n : Int} {es : List (Int × Int)} {x : Int} (h : flowOkB n es x = true) : flowsI n es x = ((flowN x.toNat n.toNat (endsL es) (fun _ => 0) : Nat) : Int) := by
  unfold flowsI flowN cP
  rw [if_pos h, endsL_length]
  congr 2
  funext s
  unfold flowQ
  rw [accK_all]
theorem dig_small {c s k : Nat} (hc : 1 ≤ c) (hc3 : c ≤ 3) : s / c ^ k % c + 1 ≤ 3 := by
  have := Nat.mod_lt (s / c ^ k) (show c > 0 by omega)
  omega
theorem accK_bound {c : Nat} (hc : 1 ≤ c) (hc3 : c ≤ 3) (l : List (Nat × Nat)) (s v : Nat) : ∀ k : Nat, -(3 * (k : Int)) ≤ accK c l s k v ∧ accK c l s k v ≤ 3 * (k : Int)
  | 0 => by simp [accK]
  | k + 1 => by
    have h := accK_bound hc hc3 l s v k
    have hd := dig_small (s := s) (k := k) hc hc3
    cases he : l[k]? with
    | none => simp only [accK, he]; omega
    | some e =>
      rw [accK_next he]
      unfold addF
      split <;> split <;> omega
/-- The reference's numbers: never below 0. -/
def spK (M : Int) (c : Nat) (l : List (Nat × Nat)) (s : Nat) : Nat → Nat → Int
  | 0 => fun _ => 0
  | k + 1 => match l[k]? with | some e => fun v => addF (spK M c l s k) e (s / c ^ k % c + 1) v + if v = e.2 then M else 0 | none => spK M c l s k
theorem spK_next {M : Int} {c : Nat} {l : List (Nat × Nat)} {s k : Nat} {e : Nat × Nat} (h : l[k]? = some e) : spK M c l s (k + 1) = fun v => addF (spK M c l s k) e (s / c ^ k % c + 1) v + if v = e.2 then M else 0 := by simp only [spK, h]
theorem spK_acc (M : Int) (c : Nat) (l : List (Nat × Nat)) (s v : Nat) : ∀ k, ∃ j : Nat, spK M c l s k v = accK c l s k v + M * (j : Int)
  | 0 => ⟨0, by simp [spK, accK]⟩
  | k + 1 => by
    obtain ⟨j, hj⟩ := spK_acc M c l s v k
    cases he : l[k]? with
    | none => exact ⟨j, by simp only [spK, accK, he]; exact hj⟩
    | some e =>
      rw [accK_next he, spK_next he]
      by_cases hv : v = e.2
      · refine ⟨j + 1, ?_⟩
        rw [Int.natCast_add, Int.mul_add]
        unfold addF
        simp only [if_pos hv, hj]; omega
      · refine ⟨j, ?_⟩
        unfold addF
        simp only [if_neg hv, hj]; omega
theorem spK_bound {M : Int} (hM : 3 ≤ M) (hM2 : M ≤ 32) {c : Nat} (hc : 1 ≤ c) (hc3 : c ≤ 3) (l : List (Nat × Nat)) (s v : Nat) : ∀ k : Nat, 0 ≤ spK M c l s k v ∧ spK M c l s k v ≤ 40 * (k : Int)
  | 0 => by simp [spK]
  | k + 1 => by
    have h := spK_bound hM hM2 hc hc3 l s v k
    have hd := dig_small (s := s) (k := k) hc hc3
    cases he : l[k]? with
    | none => simp only [spK, he]; omega
    | some e =>
      rw [spK_next he]
      show 0 ≤ addF (spK M c l s k) e (s / c ^ k % c + 1) v + (if v = e.2 then M else 0) ∧ addF (spK M c l s k) e (s / c ^ k % c + 1) v + (if v = e.2 then M else 0) ≤ 40 * ((k + 1 : Nat) : Int)
      unfold addF
      split <;> split <;> omega
theorem spK_row {M : Int} {c : Nat} {l : List (Nat × Nat)} {s k a b n : Nat} (h : l[k]? = some (a, b)) (hab : a ≠ b) :
    rowL (updI (updI (spK M c l s k) a (spK M c l s k a + ((s / c ^ k % c + 1 : Nat) : Int))) b (spK M c l s k b + M - ((s / c ^ k % c + 1 : Nat) : Int))) n = rowL (spK M c l s (k + 1)) n := by
  refine rowL_congr fun v _ => ?_
  rw [spK_next h]
  show _ = addF (spK M c l s k) (a, b) (s / c ^ k % c + 1) v + (if v = b then M else 0)
  unfold updI addF
  by_cases h1 : v = b
  · subst h1; simp [Ne.symm hab]; omega
  · by_cases h2 : v = a
    · subst h2; simp [h1]
    · simp [h1, h2]
theorem spK_mod {m c : Nat} (l : List (Nat × Nat)) (s v k : Nat) (h0 : 0 ≤ spK ((m : Int) * 8) c l s k v) : (spK ((m : Int) * 8) c l s k v).tmod (m : Int) = accK c l s k v % (m : Int) := by
  obtain ⟨j, hj⟩ := spK_acc ((m : Int) * 8) c l s v k
  rw [Int.tmod_eq_emod_of_nonneg h0, hj, Int.mul_assoc, Int.add_mul_emod_self_left]
theorem all_below (n : Nat) (q : Nat → Bool) : ((List.range n).all fun i => q (i + 1)) = true ↔ ∀ v, 1 ≤ v → v ≤ n → q v = true := by
  rw [List.all_eq_true]
  constructor
  · intro h v h1 h2
    have := h (v - 1) (List.mem_range.2 (by omega))
    rwa [show v - 1 + 1 = v by omega] at this
  · intro h i hi
    have := List.mem_range.1 hi
    exact h (i + 1) (by omega) (by omega)
/-- All nodes up to k are even out. -/
def evenB (m : Nat) (f : Nat → Int) : Nat → Bool
  | 0 => true
  | k + 1 => evenB m f k && decide (f (k + 1) % (m : Int) = 0)
theorem evenB_iff (m : Nat) (f : Nat → Int) : ∀ k, evenB m f k = true ↔ ∀ v, 1 ≤ v → v ≤ k → f v % (m : Int) = 0
  | 0 => by simp only [evenB, true_iff]; intro v h1 h2; omega
  | k + 1 => by
    simp only [evenB, Bool.and_eq_true, evenB_iff m f k, decide_eq_true_eq]
    constructor
    · rintro ⟨h1, h2⟩ v h3 h4
      by_cases e : v = k + 1
      · rw [e]; exact h2
      · exact h1 v h3 (by omega)
    · intro h; exact ⟨fun v h1 h2 => h v h1 (by omega), h (k + 1) (by omega) (by omega)⟩
theorem evenB_flow (m n : Nat) (l : List (Nat × Nat)) (s : Nat) : evenB m (accK (m - 1) l s l.length) n = flowQ m n l s := by
  rw [Bool.eq_iff_iff, evenB_iff, flowQ_iff]
theorem x_wrap {d : Nat} (h : d + 1 ≤ 3) : IntKind.i64.wrap (1 + (d : Int)) = ((d + 1 : Nat) : Int) ∧ wrap64 (1 + (d : Int)) = ((d + 1 : Nat) : Int) := ⟨by rw [IntWalk.i64_in _ (by omega)]; omega, by unfold wrap64; omega⟩

theorem dig_walk2 {s Z K d : Nat} (hd : s / Z % K = d) (h1 : 1 ≤ Z) (h2 : s ≤ 4096) : ∃ p : Nat, wrap64 ((s : Int) / (Z : Int)) = (p : Int) ∧ (p : Int).tmod (K : Int) = (d : Int) := by
  obtain ⟨p, a, ⟨h3, h4⟩, h5, -⟩ := dig_walk s Z K
  rw [← hd, h4]
  exact ⟨p, h3 h1 h2, h5⟩

end Go.Proofs.Ytdacfeebidhgnab
