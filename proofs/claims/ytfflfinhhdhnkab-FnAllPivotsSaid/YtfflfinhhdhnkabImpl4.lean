/- All states, least states: the program's. -/
import Derived.Test.YtfflfinhhdhnkabSieve
import Derived.Test.YtfflfinhhdhnkabList4
import Derived.Test.YtfflfinhhdhnkabImplCnt
import Derived.Test.YtfflfinhhdhnkabImpl2
namespace Go.Proofs.Ytfflfinhhdhnkab
open Go.RowKit
set_option maxRecDepth 100000

def upTo (k j : Nat) : Int := if j < k then (j : Int) else 0
theorem upTo_zero (P : Nat) : rowL (upTo 0) P = List.replicate P 0 := by
  rw [rowL_zero]; exact rowL_congr fun x _ => by simp [upTo]
theorem upTo_set (P k : Nat) : (rowL (upTo k) P).set k (k : Int) = rowL (upTo (k + 1)) P := by
  rw [rowL_set]
  refine rowL_congr fun x _ => ?_
  unfold updI upTo
  by_cases h : x = k
  · subst h; simp
  · rw [if_neg h]
    by_cases h2 : x < k
    · rw [if_pos h2, if_pos (by omega)]
    · rw [if_neg h2, if_neg (by omega)]
theorem upTo_all (P : Nat) : rowL (upTo P) P = natI (List.range P) := by
  apply List.ext_getElem?
  intro j
  by_cases hj : j < P
  · rw [rowL_get _ hj]; simp [natI, hj, upTo]
  · rw [List.getElem?_eq_none (by simp [rowL]; omega), List.getElem?_eq_none (by simp [natI]; omega)]

/-- A function's value answers J for each state. -/
def AskS (F : FuncId) (caps : Array Value) (l : Nat) (J : Nat → Bool) (w : World) : Prop :=
  ∀ u, Below w.heap.size w u → ∀ t : Nat, t < 2 ^ l → Calls Try.prog F (#[.int .i64 (t : Int)] ++ caps) u fun e w' => e = .returned (.bool (J t)) ∧ Below u.heap.size u w'
theorem AskS.on {F : FuncId} {caps : Array Value} {l : Nat} {J : Nat → Bool} {w w' : World} (h : AskS F caps l J w) (hb : Below w.heap.size w w') : AskS F caps l J w' :=
  fun u hu => h u (hb.trans (hu.mono hb.size))

end Go.Proofs.Ytfflfinhhdhnkab

/- The fewest there, and how many are apart: the program's. -/
namespace Go.Proofs.Ytfflfinhhdhnkab
open Go.RowKit
set_option maxRecDepth 100000

theorem natI_at {xs : List Nat} {k : Nat} (h : k < xs.length) : (natI xs)[k]? = some ((xs.getD k 0 : Nat) : Int) := by
  refine natI_get ?_
  simp [List.getD, h]
theorem getD_mem {xs : List Nat} {k : Nat} (h : k < xs.length) : xs.getD k 0 ∈ xs := by
  have : xs.getD k 0 = xs[k] := by simp [List.getD, h]
  rw [this]; exact List.getElem_mem h

theorem max_if (z r : Nat) : (if (z : Int) < 1 + (r : Int) then 1 + (r : Int) else (z : Int)) = ((max z (1 + r) : Nat) : Int) := by
  rw [Nat.max_def]; split <;> split <;> omega
end Go.Proofs.Ytfflfinhhdhnkab

/- PathsOf, CutsOf, ShortestOf, ThinnestOf, ApartPaths of the program. -/
namespace Go.Proofs.Ytfflfinhhdhnkab
open Go.RowKit
set_option maxRecDepth 100000

theorem joined_state {n : Int} {es : List (Int × Int)} {a b : Int} (h : joinOkB n es a b = true) {t : Nat} (ht : t < 2 ^ es.length) : joinedB n es t a b = joinS es a.toNat b.toNat t := by
  have h' := joinOkB_iff.1 h
  have := joinS_is h'.1 (a := a.toNat) (b := b.toNat) (by omega) (by omega) ht
  rwa [show ((a.toNat : Nat) : Int) = a by omega, show ((b.toNat : Nat) : Int) = b by omega] at this
theorem natI_got {w w' : World} {xs : List Nat} {e : Ending} (h : GotInts w (natI xs) e w') : ∃ A c, e = .returned (.slice A xs.length c) ∧ OwnI w' w.heap.size (.slice A xs.length c) (natI xs) ∧ xs.length ≤ c ∧ Below w.heap.size w w' := by
  obtain ⟨A, c, h1, h2, h3⟩ := h
  have hc := h2.cap
  rw [natI_length] at h1 h2 hc
  exact ⟨A, c, h1, h2, hc, h3⟩

end Go.Proofs.Ytfflfinhhdhnkab
