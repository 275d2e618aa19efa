/- Plain facts on chances: choices weighed by p parts for an edge that is there and r parts for one that is not. -/
import Derived.Test.YtaplmlbpleilfaaCounts3
namespace Go.Proofs.Ytaplmlbpleilfaa
set_option maxRecDepth 100000

def wts (q : (Nat → Nat) → Bool) (p r : Nat) : List (Nat × Nat) → (Nat → Nat) → Nat
  | [], R => if q R = true then 1 else 0
  | e :: es, R => r * wts q p r es R + p * wts q p r es (glue R e.1 e.2)
def sumN (f : Nat → Nat) : Nat → Nat
  | 0 => 0
  | n + 1 => sumN f n + f n
theorem sumN_congr {f g : Nat → Nat} : ∀ n, (∀ k, k < n → f k = g k) → sumN f n = sumN g n
  | 0, _ => rfl
  | n + 1, h => by rw [sumN, sumN, sumN_congr n (fun k hk => h k (by omega)), h n (by omega)]
theorem sumN_add (f g : Nat → Nat) : ∀ n, sumN (fun k => f k + g k) n = sumN f n + sumN g n
  | 0 => rfl
  | n + 1 => by simp only [sumN, sumN_add f g n]; omega
theorem sumN_mul (c : Nat) (f : Nat → Nat) : ∀ n, sumN (fun k => c * f k) n = c * sumN f n
  | 0 => rfl
  | n + 1 => by simp only [sumN, sumN_mul c f n, Nat.mul_add]
theorem sumN_first (f : Nat → Nat) : ∀ n, sumN f (n + 1) = f 0 + sumN (fun k => f (k + 1)) n
  | 0 => by simp [sumN]
  | n + 1 => by rw [sumN, sumN_first f n, sumN]; omega
/-- Told by counts. -/
theorem wts_ways (q : (Nat → Nat) → Bool) (p r : Nat) : ∀ (es : List (Nat × Nat)) (R : Nat → Nat),
    wts q p r es R = sumN (fun k => ways q es R k * (p ^ k * r ^ (es.length - k))) (es.length + 1)
  | [], R => by simp [wts, sumN, ways]
  | e :: es, R => by
    rw [wts, wts_ways q p r es R, wts_ways q p r es (glue R e.1 e.2), List.length_cons, sumN_first (fun k => ways q (e :: es) R k * (p ^ k * r ^ (es.length + 1 - k)))]
    have h1 : sumN (fun k => ways q (e :: es) R (k + 1) * (p ^ (k + 1) * r ^ (es.length + 1 - (k + 1)))) (es.length + 1) =
        sumN (fun k => ways q es R (k + 1) * (p ^ (k + 1) * r ^ (es.length - k))) (es.length + 1) + p * sumN (fun k => ways q es (glue R e.1 e.2) k * (p ^ k * r ^ (es.length - k))) (es.length + 1) := by
      rw [← sumN_mul, ← sumN_add]
      refine sumN_congr _ fun k _ => ?_
      rw [ways, Nat.add_sub_add_right, Nat.add_mul]
      congr 1
      rw [Nat.pow_succ]
      simp only [Nat.mul_comm, Nat.mul_assoc]
    have h2 : sumN (fun k => ways q es R (k + 1) * (p ^ (k + 1) * r ^ (es.length - k))) (es.length + 1) = r * sumN (fun k => ways q es R (k + 1) * (p ^ (k + 1) * r ^ (es.length - (k + 1)))) es.length := by
      rw [sumN, ways_more q es R (es.length + 1) (by omega), Nat.zero_mul, Nat.add_zero, ← sumN_mul]
      refine sumN_congr _ fun k hk => ?_
      rw [show es.length - k = (es.length - (k + 1)) + 1 by omega, Nat.pow_succ (n := r)]
      simp only [Nat.mul_comm, Nat.mul_left_comm, Nat.mul_assoc]
    rw [h1, h2, sumN_first (fun k => ways q es R k * (p ^ k * r ^ (es.length - k))) es.length, Nat.mul_add]
    have h3 : ways q (e :: es) R 0 * (p ^ 0 * r ^ (es.length + 1 - 0)) = r * (ways q es R 0 * (p ^ 0 * r ^ (es.length - 0))) := by
      rw [ways, Nat.sub_zero, Nat.sub_zero, Nat.pow_succ]
      simp only [Nat.mul_comm, Nat.mul_assoc]
    rw [h3]; omega
theorem wts_ker {q : (Nat → Nat) → Bool} (hq : Blind q) (p r : Nat) (es : List (Nat × Nat)) {R R' : Nat → Nat} (h : Ker R R') : wts q p r es R = wts q p r es R' := by
  rw [wts_ways, wts_ways]
  exact sumN_congr _ fun k _ => by rw [ways_ker hq es R R' k h]
/-- An edge is there, or not, with its chance: wherever it stands. -/
theorem wts_move {q : (Nat → Nat) → Bool} (hq : Blind q) (p r : Nat) (e : Nat × Nat) (l2 : List (Nat × Nat)) : ∀ (l1 : List (Nat × Nat)) (R : Nat → Nat),
    wts q p r (l1 ++ e :: l2) R = r * wts q p r (l1 ++ l2) R + p * wts q p r (l1 ++ l2) (glue R e.1 e.2)
  | [], R => rfl
  | f :: l1, R => by
    simp only [List.cons_append, wts]
    rw [wts_move hq p r e l2 l1 R, wts_move hq p r e l2 l1 (glue R f.1 f.2), wts_ker hq p r (l1 ++ l2) (Ker.comm R f.1 f.2 e.1 e.2)]
    simp only [Nat.mul_add, Nat.mul_left_comm p r]
    omega
theorem wts_up {q : (Nat → Nat) → Bool} (hq : Blind q) (hu : Up q) (p r : Nat) (a b : Nat) : ∀ (es : List (Nat × Nat)) (R : Nat → Nat), wts q p r es R ≤ wts q p r es (glue R a b)
  | [], R => by
    simp only [wts]
    split
    · rename_i h; rw [if_pos (hu R a b h)]; exact Nat.le_refl _
    · exact Nat.zero_le _
  | e :: es, R => by
    simp only [wts]
    have h1 := wts_up hq hu p r a b es R
    have h2 := wts_up hq hu p r a b es (glue R e.1 e.2)
    rw [wts_ker hq p r es (Ker.comm R e.1 e.2 a b)] at h2
    exact Nat.add_le_add (Nat.mul_le_mul_left r h1) (Nat.mul_le_mul_left p h2)
/-- One part more for each edge: no fewer ways. -/
theorem wts_part {q : (Nat → Nat) → Bool} (hq : Blind q) (hu : Up q) (p r : Nat) : ∀ (es : List (Nat × Nat)) (R : Nat → Nat), wts q p (r + 1) es R ≤ wts q (p + 1) r es R
  | [], R => Nat.le_refl _
  | e :: es, R => by
    simp only [wts]
    have h1 := wts_part hq hu p r es R
    have h2 := wts_part hq hu p r es (glue R e.1 e.2)
    have h3 := wts_up hq hu (p + 1) r e.1 e.2 es R
    have m1 := Nat.mul_le_mul_left (r + 1) h1
    have m2 := Nat.mul_le_mul_left p h2
    have e1 : (r + 1) * wts q (p + 1) r es R = r * wts q (p + 1) r es R + wts q (p + 1) r es R := Nat.succ_mul _ _
    have e2 : (p + 1) * wts q (p + 1) r es (glue R e.1 e.2) = p * wts q (p + 1) r es (glue R e.1 e.2) + wts q (p + 1) r es (glue R e.1 e.2) := Nat.succ_mul _ _
    omega
theorem wts_all (q : (Nat → Nat) → Bool) (p r : Nat) : ∀ (es : List (Nat × Nat)) (R : Nat → Nat), wts q p r es R ≤ (p + r) ^ es.length
  | [], R => by simp only [wts]; split <;> simp
  | e :: es, R => by
    simp only [wts, List.length_cons, Nat.pow_succ]
    have m1 := Nat.mul_le_mul_left r (wts_all q p r es R)
    have m2 := Nat.mul_le_mul_left p (wts_all q p r es (glue R e.1 e.2))
    have : (p + r) ^ es.length * (p + r) = p * (p + r) ^ es.length + r * (p + r) ^ es.length := by rw [Nat.mul_add, Nat.mul_comm _ p, Nat.mul_comm _ r]
    omega
end Go.Proofs.Ytaplmlbpleilfaa
