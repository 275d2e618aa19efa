/- Plain facts on the ways of a chance: sums of counts, weighed. -/
import Derived.Test.YtdacfeebidhgnaaCounts
import Derived.Test.YtdacfeebidhgnaaSplit
namespace Go.Proofs.Ytdacfeebidhgnaa
set_option maxRecDepth 100000

/-- Of l things, so many there with count c: p parts for one that is there, r for one that is not. -/
def wsum (c : Nat → Nat) (l p r : Nat) : Nat := sumN (fun k => c k * (p ^ k * r ^ (l - k))) (l + 1)
theorem sumN_zero {f : Nat → Nat} : ∀ n, (∀ k, k < n → f k = 0) → sumN f n = 0
  | 0, _ => rfl
  | n + 1, h => by rw [sumN, sumN_zero n (fun k hk => h k (by omega)), h n (by omega)]
theorem wsum_none (c : Nat → Nat) (l r : Nat) : wsum c l 0 r = c 0 * r ^ l := by
  unfold wsum
  rw [sumN_first, sumN_zero l (fun k _ => by rw [Nat.pow_succ]; simp)]
  simp
theorem wsum_full (c : Nat → Nat) (l p : Nat) : wsum c l p 0 = c l * p ^ l := by
  unfold wsum
  rw [sumN, sumN_zero l (fun k hk => by rw [show l - k = (l - k - 1) + 1 by omega, Nat.pow_succ]; simp)]
  simp
theorem sumN_rev (f : Nat → Nat) : ∀ n, sumN (fun k => f (n - k)) (n + 1) = sumN f (n + 1)
  | 0 => rfl
  | n + 1 => by
    have h1 : sumN (fun k => f (n + 1 - (k + 1))) (n + 1) = sumN (fun k => f (n - k)) (n + 1) := sumN_congr _ fun k _ => by rw [Nat.add_sub_add_right]
    rw [sumN_first, h1, sumN_rev f n, Nat.sub_zero]
    show _ = sumN f (n + 1) + f (n + 1)
    omega
theorem wsum_rev (c : Nat → Nat) (l p r : Nat) : wsum (fun k => c (l - k)) l r p = wsum c l p r := by
  unfold wsum
  rw [← sumN_rev (fun k => c k * (p ^ k * r ^ (l - k))) l]
  refine sumN_congr _ fun k hk => ?_
  rw [show l - (l - k) = k by omega, Nat.mul_comm (r ^ k)]
theorem wsum_congr {c d : Nat → Nat} {l : Nat} (h : ∀ k, k ≤ l → c k = d k) (p r : Nat) : wsum c l p r = wsum d l p r :=
  sumN_congr _ fun k hk => by rw [h k (by omega)]
/-- An edge is there, or not, with its chance. -/
theorem wsum_split {a b : Nat → Nat} {l : Nat} (ha : a (l + 1) = 0) (p r : Nat) : wsum (fun k => a k + later b k) (l + 1) p r = r * wsum a l p r + p * wsum b l p r := by
  unfold wsum
  have h1 : sumN (fun k => (a k + later b k) * (p ^ k * r ^ (l + 1 - k))) (l + 1 + 1) = sumN (fun k => a k * (p ^ k * r ^ (l + 1 - k))) (l + 1 + 1) + sumN (fun k => later b k * (p ^ k * r ^ (l + 1 - k))) (l + 1 + 1) := by
    rw [← sumN_add]; exact sumN_congr _ fun k _ => by rw [Nat.add_mul]
  have h2 : sumN (fun k => a k * (p ^ k * r ^ (l + 1 - k))) (l + 1 + 1) = r * sumN (fun k => a k * (p ^ k * r ^ (l - k))) (l + 1) := by
    rw [sumN, ha, Nat.zero_mul, Nat.add_zero, ← sumN_mul]
    refine sumN_congr _ fun k hk => ?_
    rw [show l + 1 - k = (l - k) + 1 by omega, Nat.pow_succ, ← Nat.mul_assoc (p ^ k), Nat.mul_comm _ r, ← Nat.mul_assoc, Nat.mul_comm _ r, Nat.mul_assoc]
  have h3 : sumN (fun k => later b k * (p ^ k * r ^ (l + 1 - k))) (l + 1 + 1) = p * sumN (fun k => b k * (p ^ k * r ^ (l - k))) (l + 1) := by
    rw [sumN_first, ← sumN_mul]
    have h0 : later b 0 = 0 := by simp [later]
    rw [h0, Nat.zero_mul, Nat.zero_add]
    refine sumN_congr _ fun k hk => ?_
    have h4 : later b (k + 1) = b k := by simp [later]
    rw [h4, Nat.add_sub_add_right, Nat.pow_succ, Nat.mul_comm (p ^ k) p, Nat.mul_assoc p, ← Nat.mul_assoc (b k), Nat.mul_comm (b k) p, Nat.mul_assoc]
  rw [h1, h2, h3]
theorem pow_bound {p r l k m : Nat} (h : p + r ≤ m) (hk : k ≤ l) : p ^ k * r ^ (l - k) ≤ m ^ l := by
  have h1 : p ^ k ≤ m ^ k := Nat.pow_le_pow_left (by omega) k
  have h2 : r ^ (l - k) ≤ m ^ (l - k) := Nat.pow_le_pow_left (by omega) (l - k)
  have h3 := Nat.mul_le_mul h1 h2
  rw [← Nat.pow_add, show k + (l - k) = l by omega] at h3
  exact h3
/-- The first j of the sums. -/
def wpart (c : Nat → Nat) (l p r : Nat) (j : Nat) : Nat := sumN (fun k => c k * (p ^ k * r ^ (l - k))) j
theorem wpart_le {c : Nat → Nat} {l p r : Nat} (hl : l ≤ 9) (hp : p + r ≤ 5) (hc : ∀ k, k ≤ l → c k ≤ 1048576) : ∀ j, j ≤ l + 1 → wpart c l p r j ≤ j * 2048000000000
  | 0, _ => by simp [wpart, sumN]
  | j + 1, hj => by
    have h1 := wpart_le hl hp hc j (by omega)
    have h2 := Nat.mul_le_mul (hc j (by omega)) (pow_bound hp (show j ≤ l by omega))
    have h3 : 5 ^ l ≤ 5 ^ 9 := Nat.pow_le_pow_right (by omega) hl
    have h4 : 1048576 * 5 ^ l ≤ 1048576 * 5 ^ 9 := Nat.mul_le_mul_left _ h3
    have h5 : 1048576 * 5 ^ 9 = 2048000000000 := by decide
    unfold wpart at h1 ⊢
    rw [sumN]
    omega

/-- The ways of joined nodes and of a whole net are weighed choices. -/
theorem join_wsum (es : List (Int × Int)) (a b p r : Nat) : wsum (joinC es a b) es.length p r = wts (joinQ a b) p r (endsL es) (fun x => x) := by
  rw [wts_ways, endsL_length]; rfl
theorem whole_wsum (n : Int) (es : List (Int × Int)) (p r : Nat) : wsum (wholeC n es) es.length p r = wts (wholeA n.toNat) p r (endsL es) (fun x => x) := by
  rw [wts_ways, endsL_length]; rfl
theorem joinW_more (es : List (Int × Int)) (a b p r : Nat) : wsum (joinC es a b) es.length p (r + 1) ≤ wsum (joinC es a b) es.length (p + 1) r := by
  rw [join_wsum, join_wsum]; exact wts_part (joinQ_blind a b) (joinQ_up a b) p r _ _
theorem joinW_all (es : List (Int × Int)) (a b p r : Nat) : wsum (joinC es a b) es.length p r ≤ (p + r) ^ es.length := by
  rw [join_wsum]
  have := wts_all (joinQ a b) p r (endsL es) (fun x => x)
  rwa [endsL_length] at this
theorem wholeW_all (n : Int) (es : List (Int × Int)) (p r : Nat) : wsum (wholeC n es) es.length p r ≤ (p + r) ^ es.length := by
  rw [whole_wsum]
  have := wts_all (wholeA n.toNat) p r (endsL es) (fun x => x)
  rwa [endsL_length] at this
theorem wholeW_more (n : Int) (es : List (Int × Int)) (p r : Nat) : wsum (wholeC n es) es.length p (r + 1) ≤ wsum (wholeC n es) es.length (p + 1) r := by
  rw [whole_wsum, whole_wsum]; exact wts_part (wholeA_blind n.toNat) (wholeA_up n.toNat) p r _ _
/-- WholeWays: without the edge times the parts that are left, and with its ends made one times the parts, where no other edge has its ends. -/
theorem wholeW_split {n : Int} {es : List (Int × Int)} {at_ : Nat} (hn : netOkB n es = true) (h3 : 3 ≤ n) (hat : at_ < es.length) (h0 : mL n es at_ = 0) (p r : Nat) :
    wsum (wholeC n es) es.length p r = r * wsum (wholeC n (wE n es at_)) (wE n es at_).length p r + p * wsum (wholeC (n - 1) (mE n es at_)) (mE n es at_).length p r := by
  obtain ⟨le, je, c0, f1, f2, f3, f4, f5, f6, f7, hnl, hll, hnj, hlj, hsp⟩ := split_facts hn h3 hat
  have hc0 : c0 = 0 := by rw [f6] at h0; omega
  subst hc0
  rw [f1, f4, ← hll, show je.length = le.length by omega]
  have hs : ∀ k, wholeC n es k = wholeC n le k + later (wholeC (n - 1) je) k := hsp
  rw [wsum_congr (fun k _ => hs k)]
  exact wsum_split (wholeC_more (by omega)) p r
end Go.Proofs.Ytdacfeebidhgnaa
