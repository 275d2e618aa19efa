/- Plain facts on counts of states: how many choices of so many edges of a list meet what depends on the pieces alone. -/
import Derived.Test.YtaplmlbpleilfaaPieces
namespace Go.Proofs.Ytaplmlbpleilfaa
set_option maxRecDepth 100000

/-- Both join the same. -/
def Ker (R R' : Nat → Nat) : Prop := ∀ x y, R x = R y ↔ R' x = R' y
theorem Ker.refl (R : Nat → Nat) : Ker R R := fun _ _ => Iff.rfl
theorem Ker.symm {R R' : Nat → Nat} (h : Ker R R') : Ker R' R := fun x y => (h x y).symm
theorem Ker.trans {R R' R'' : Nat → Nat} (h : Ker R R') (h' : Ker R' R'') : Ker R R'' := fun x y => (h x y).trans (h' x y)
theorem glue_eq (R : Nat → Nat) (a b x y : Nat) : glue R a b x = glue R a b y ↔ R x = R y ∨ ((R x = R a ∨ R x = R b) ∧ (R y = R a ∨ R y = R b)) := by
  unfold glue
  split <;> split <;> omega
theorem Ker.glue {R R' : Nat → Nat} (h : Ker R R') (a b : Nat) : Ker (glue R a b) (glue R' a b) := by
  intro x y
  rw [glue_eq, glue_eq, h x y, h x a, h x b, h y a, h y b]
theorem Ker.swap (R : Nat → Nat) (a b : Nat) : Ker (Go.Proofs.Ytaplmlbpleilfaa.glue R a b) (Go.Proofs.Ytaplmlbpleilfaa.glue R b a) := by
  intro x y
  rw [glue_eq, glue_eq]; omega
/-- What R joins, F joins. -/
def Sub (R F : Nat → Nat) : Prop := ∀ x y, R x = R y → F x = F y
theorem Sub.glue {R F : Nat → Nat} (h : Sub R F) {a b : Nat} (hab : F a = F b) : Sub (Go.Proofs.Ytaplmlbpleilfaa.glue R a b) F := by
  intro x y hxy
  have to : ∀ z, R z = R a ∨ R z = R b → F z = F a := fun z hz => by
    rcases hz with hz | hz
    · exact h z a hz
    · exact (h z b hz).trans hab.symm
  rcases (glue_eq R a b x y).1 hxy with h1 | ⟨h1, h2⟩
  · exact h x y h1
  · exact (to x h1).trans (to y h2).symm
theorem Sub.two (R : Nat → Nat) (a b c d : Nat) : Sub (Go.Proofs.Ytaplmlbpleilfaa.glue (Go.Proofs.Ytaplmlbpleilfaa.glue R a b) c d) (Go.Proofs.Ytaplmlbpleilfaa.glue (Go.Proofs.Ytaplmlbpleilfaa.glue R c d) a b) := by
  have h0 : Sub R (Go.Proofs.Ytaplmlbpleilfaa.glue (Go.Proofs.Ytaplmlbpleilfaa.glue R c d) a b) := fun x y h => glue_kept (glue_kept h c d) a b
  refine (h0.glue ?_).glue ?_
  · rw [glue_self, glue_other]
  · exact glue_kept (by rw [glue_self, glue_other]) a b
theorem Ker.comm (R : Nat → Nat) (a b c d : Nat) : Ker (Go.Proofs.Ytaplmlbpleilfaa.glue (Go.Proofs.Ytaplmlbpleilfaa.glue R a b) c d) (Go.Proofs.Ytaplmlbpleilfaa.glue (Go.Proofs.Ytaplmlbpleilfaa.glue R c d) a b) :=
  fun x y => ⟨Sub.two R a b c d x y, Sub.two R c d a b x y⟩
theorem Ker.joined {R : Nat → Nat} {a b : Nat} (h : R a = R b) : Ker (Go.Proofs.Ytaplmlbpleilfaa.glue R a b) R := by
  intro x y
  rw [glue_eq]; omega

/-- In how many ways k of the edges may be chosen so that q holds of R with them. -/
def ways (q : (Nat → Nat) → Bool) : List (Nat × Nat) → (Nat → Nat) → Nat → Nat
  | [], R, k => if k = 0 then (if q R = true then 1 else 0) else 0
  | _ :: es, R, 0 => ways q es R 0
  | e :: es, R, k + 1 => ways q es R (k + 1) + ways q es (glue R e.1 e.2) k
def Blind (q : (Nat → Nat) → Bool) : Prop := ∀ R R', Ker R R' → q R = q R'
theorem ways_ker {q : (Nat → Nat) → Bool} (hq : Blind q) : ∀ (es : List (Nat × Nat)) (R R' : Nat → Nat) (k : Nat), Ker R R' → ways q es R k = ways q es R' k
  | [], R, R', k, h => by simp only [ways, hq R R' h]
  | _ :: es, R, R', 0, h => by simp only [ways]; exact ways_ker hq es R R' 0 h
  | e :: es, R, R', k + 1, h => by
    simp only [ways]
    rw [ways_ker hq es R R' (k + 1) h, ways_ker hq es _ _ k (h.glue e.1 e.2)]
/-- An edge is there or not, wherever it stands in the list. -/
theorem ways_zero (q : (Nat → Nat) → Bool) (e : Nat × Nat) (l2 : List (Nat × Nat)) : ∀ (l1 : List (Nat × Nat)) (R : Nat → Nat), ways q (l1 ++ e :: l2) R 0 = ways q (l1 ++ l2) R 0
  | [], R => rfl
  | f :: l1, R => by simp only [List.cons_append, ways]; exact ways_zero q e l2 l1 R
theorem ways_move {q : (Nat → Nat) → Bool} (hq : Blind q) (e : Nat × Nat) (l2 : List (Nat × Nat)) : ∀ (l1 : List (Nat × Nat)) (R : Nat → Nat) (k : Nat),
    ways q (l1 ++ e :: l2) R (k + 1) = ways q (l1 ++ l2) R (k + 1) + ways q (l1 ++ l2) (glue R e.1 e.2) k
  | [], R, k => rfl
  | f :: l1, R, 0 => by
    simp only [List.cons_append, ways]
    rw [ways_move hq e l2 l1 R 0, ways_zero q e l2 l1]
    omega
  | f :: l1, R, k + 1 => by
    simp only [List.cons_append, ways]
    rw [ways_move hq e l2 l1 R (k + 1), ways_move hq e l2 l1 (glue R f.1 f.2) k, ways_ker hq (l1 ++ l2) _ _ k (Ker.comm R f.1 f.2 e.1 e.2)]
    omega
/-- An edge whose ends are joined already: there or not. -/
theorem ways_loop {q : (Nat → Nat) → Bool} (hq : Blind q) {e : Nat × Nat} {R : Nat → Nat} (h : R e.1 = R e.2) (es : List (Nat × Nat)) (k : Nat) :
    ways q (e :: es) R (k + 1) = ways q es R (k + 1) + ways q es R k := by
  simp only [ways]
  rw [ways_ker hq es _ _ k (Ker.joined h)]
theorem ways_more (q : (Nat → Nat) → Bool) : ∀ (es : List (Nat × Nat)) (R : Nat → Nat) (k : Nat), es.length < k → ways q es R k = 0
  | [], R, k, h => by simp only [ways]; rw [if_neg (by simpa using (show ¬ k = 0 by simp at h; omega))]
  | _ :: es, R, 0, h => by simp at h
  | e :: es, R, k + 1, h => by
    simp only [List.length_cons] at h
    simp only [ways]
    rw [ways_more q es R (k + 1) (by omega), ways_more q es _ k (by omega)]

/-- What works goes on working with one edge more. -/
def Up (q : (Nat → Nat) → Bool) : Prop := ∀ R a b, q R = true → q (glue R a b) = true
theorem ways_up {q : (Nat → Nat) → Bool} (hq : Blind q) (hu : Up q) (a b : Nat) : ∀ (es : List (Nat × Nat)) (R : Nat → Nat) (k : Nat), ways q es R k ≤ ways q es (glue R a b) k
  | [], R, k => by
    simp only [ways]
    split
    · split
      · rename_i h; rw [if_pos (hu R a b h)]; exact Nat.le_refl _
      · exact Nat.zero_le _
    · exact Nat.le_refl _
  | _ :: es, R, 0 => by simp only [ways]; exact ways_up hq hu a b es R 0
  | e :: es, R, k + 1 => by
    simp only [ways]
    have h1 := ways_up hq hu a b es R (k + 1)
    have h2 := ways_up hq hu a b es (glue R e.1 e.2) k
    rw [ways_ker hq es _ _ k (Ker.comm R e.1 e.2 a b)] at h2
    omega
/-- Each count, times the edges that lack, is at most the next one times its edges. -/
theorem ways_next {q : (Nat → Nat) → Bool} (hq : Blind q) (hu : Up q) : ∀ (es : List (Nat × Nat)) (R : Nat → Nat) (k : Nat), ways q es R k * (es.length - k) ≤ ways q es R (k + 1) * (k + 1)
  | [], R, k => by simp
  | e :: es, R, 0 => by
    have h1 := ways_next hq hu es R 0
    have h2 := ways_up hq hu e.1 e.2 es R 0
    simp only [ways, List.length_cons, Nat.sub_zero, Nat.zero_add, Nat.mul_one] at h1 ⊢
    rw [Nat.mul_succ]; omega
  | e :: es, R, k + 1 => by
    have h1 := ways_next hq hu es R (k + 1)
    have h2 := ways_next hq hu es (glue R e.1 e.2) k
    have h3 := ways_up hq hu e.1 e.2 es R (k + 1)
    simp only [ways, List.length_cons]
    generalize ways q es R (k + 1) = A at *
    generalize ways q es R (k + 1 + 1) = A' at *
    generalize ways q es (glue R e.1 e.2) k = B at *
    generalize ways q es (glue R e.1 e.2) (k + 1) = B' at *
    rw [Nat.add_sub_add_right, Nat.add_mul, Nat.add_mul]
    by_cases hk : k + 1 ≤ es.length
    · have e1 : es.length - k = (es.length - (k + 1)) + 1 := by omega
      have e2 : A * (es.length - k) = A * (es.length - (k + 1)) + A := by rw [e1, Nat.mul_succ]
      have e3 : B' * (k + 1 + 1) = B' * (k + 1) + B' := Nat.mul_succ _ _
      omega
    · have e1 : es.length - k = 0 := by omega
      rw [e1, Nat.mul_zero, Nat.mul_zero]; exact Nat.zero_le _

/-- Choices. -/
def chs : Nat → Nat → Nat
  | _, 0 => 1
  | 0, _ + 1 => 0
  | n + 1, k + 1 => chs n (k + 1) + chs n k
theorem ways_le (q : (Nat → Nat) → Bool) : ∀ (es : List (Nat × Nat)) (R : Nat → Nat) (k : Nat), ways q es R k ≤ chs es.length k
  | [], R, 0 => by
    simp only [ways, chs, if_true]
    split <;> omega
  | [], R, k + 1 => by simp [ways]
  | _ :: es, R, 0 => by simp only [ways]; have := ways_le q es R 0; simpa [chs] using this
  | e :: es, R, k + 1 => by
    simp only [ways, List.length_cons, chs]
    have h1 := ways_le q es R (k + 1)
    have h2 := ways_le q es (glue R e.1 e.2) k
    omega
end Go.Proofs.Ytaplmlbpleilfaa
