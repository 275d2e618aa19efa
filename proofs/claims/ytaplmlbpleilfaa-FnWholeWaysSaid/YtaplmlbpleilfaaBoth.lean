/- Plain facts on two rows of counts put together. -/
import Derived.Test.YtaplmlbpleilfaaCounts3
namespace Go.Proofs.Ytaplmlbpleilfaa
set_option maxRecDepth 100000

/-- For k: the sum of the products of both counts, over all ways to put k together from two. -/
def conv : List Int → List Int → Nat → Int
  | [], _, _ => 0
  | x :: a, b, k => x * b.getD k 0 + match k with
    | 0 => 0
    | k + 1 => conv a b k
theorem conv_nil (a : List Int) : ∀ k, conv a [] k = 0 := by
  induction a with
  | nil => intro k; rfl
  | cons x a ih => intro k; cases k <;> simp [conv, ih]
theorem conv_cons (y : Int) (b : List Int) : ∀ (a : List Int) (k : Nat), conv a (y :: b) k = y * a.getD k 0 + match k with
    | 0 => 0
    | k + 1 => conv a b k
  | [], k => by cases k <;> simp [conv]
  | x :: a, 0 => by simp [conv, Int.mul_comm]
  | x :: a, 1 => by
    simp only [conv, conv_cons y b a 0, List.getD_cons_succ]
    cases b <;> simp <;> omega
  | x :: a, k + 2 => by
    simp only [conv, conv_cons y b a (k + 1), List.getD_cons_succ]
    omega
theorem conv_comm : ∀ (a b : List Int) (k : Nat), conv a b k = conv b a k
  | [], b, k => by rw [conv_nil]; rfl
  | x :: a, b, k => by
    rw [conv_cons]
    cases k with
    | zero => simp [conv]
    | succ k => simp only [conv, conv_comm a b k]
theorem conv_one (a : List Int) (k : Nat) : conv a [1] k = a.getD k 0 := by
  rw [conv_cons]
  cases k with
  | zero => simp
  | succ k => simp [conv_nil]
theorem conv_more : ∀ (a b : List Int) (k : Nat), a.length + b.length ≤ k + 1 → conv a b k = 0
  | [], _, _, _ => rfl
  | x :: a, b, 0, h => by
    have hb : b = [] := by cases b with
      | nil => rfl
      | cons y b => simp at h; omega
    subst hb; simp [conv]
  | x :: a, b, k + 1, h => by
    simp only [List.length_cons] at h
    have h1 : b.getD (k + 1) 0 = 0 := by rw [List.getD_eq_getElem?_getD, List.getElem?_eq_none (by omega)]; rfl
    simp only [conv, h1, conv_more a b k (by omega)]
    simp
def sumI (r : Nat → Int) : Nat → Int
  | 0 => 0
  | n + 1 => sumI r n + r n
theorem sumI_add (r s : Nat → Int) : ∀ n, sumI (fun k => r k + s k) n = sumI r n + sumI s n
  | 0 => rfl
  | n + 1 => by simp only [sumI, sumI_add r s n]; omega
theorem sumI_mul (x : Int) (r : Nat → Int) : ∀ n, sumI (fun k => x * r k) n = x * sumI r n
  | 0 => by simp [sumI]
  | n + 1 => by simp only [sumI, sumI_mul x r n, Int.mul_add]
theorem sumI_first (r : Nat → Int) : ∀ n, sumI r (n + 1) = r 0 + sumI (fun k => r (k + 1)) n
  | 0 => by simp [sumI]
  | n + 1 => by rw [sumI, sumI_first r n, sumI]; omega
theorem sumI_zero {r : Nat → Int} : ∀ n, (∀ k, k < n → r k = 0) → sumI r n = 0
  | 0, _ => rfl
  | n + 1, h => by rw [sumI, sumI_zero n (fun k hk => h k (by omega)), h n (by omega)]; rfl
theorem sumI_more {r : Nat → Int} (n : Nat) : ∀ m, (∀ k, n ≤ k → r k = 0) → sumI r (n + m) = sumI r n
  | 0, _ => rfl
  | m + 1, h => by rw [← Nat.add_assoc, sumI, sumI_more n m h, h (n + m) (by omega)]; omega
theorem sumI_list : ∀ (b : List Int) (n : Nat), b.length ≤ n → sumI (fun k => b.getD k 0) n = b.sum
  | [], n, _ => by simpa using sumI_zero (r := fun k => ([] : List Int).getD k 0) n (fun k _ => by simp)
  | y :: b, 0, h => by simp at h
  | y :: b, n + 1, h => by
    rw [sumI_first]
    simp only [List.getD_cons_succ, List.getD_cons_zero, List.sum_cons]
    rw [sumI_list b n (by simpa using h)]
/-- All counts together are the product of those of both rows. -/
theorem conv_sum : ∀ (a b : List Int) (n : Nat), a.length + b.length ≤ n + 1 → sumI (conv a b) n = a.sum * b.sum
  | [], b, n, _ => by
    simp only [List.sum_nil, Int.zero_mul]
    exact sumI_zero n fun k _ => rfl
  | x :: a, b, n, h => by
    simp only [List.length_cons] at h
    have h0 : conv (x :: a) b = fun k => x * b.getD k 0 + (match k with
      | 0 => 0
      | k + 1 => conv a b k) := by funext k; rfl
    rw [h0, sumI_add, sumI_mul, sumI_list b n (by omega), List.sum_cons, Int.add_mul]
    congr 1
    cases n with
    | zero =>
      have : b = [] := by cases b with
        | nil => rfl
        | cons y b => simp only [List.length_cons] at h; omega
      subst this
      simp [sumI]
    | succ n =>
      rw [sumI_first]
      simp only [Int.zero_add]
      exact conv_sum a b n (by omega)
/-- With the row of twice 1: the row, and the row one later. -/
theorem conv_tw (a : List Int) (k : Nat) : conv a [1, 1] k = a.getD k 0 + match k with
    | 0 => 0
    | k + 1 => a.getD k 0 := by
  rw [conv_cons]
  cases k with
  | zero => simp
  | succ k => simp [conv_one]
end Go.Proofs.Ytaplmlbpleilfaa
