/- What ApartFamilies' row of truths holds. -/
import Derived.Test.YtlcgbmeneajfoaaVal8b
namespace Go.Proofs.Ytlcgbmeneajfoaa
open Go.RowKit
set_option maxRecDepth 100000

def pairB (ms : List Nat) (x s : Nat) : Bool := ms.any fun y => decide (x &&& y = 0) && decide (s &&& (x ||| y) = x ||| y)
def pairsB (ns ms : List Nat) (s : Nat) : Bool := ns.any fun x => pairB ms x s
theorem or_sub {x y s : Nat} : s &&& (x ||| y) = x ||| y ↔ x &&& s = x ∧ y &&& s = y := by
  constructor
  · intro h
    constructor <;>
    · apply Nat.eq_of_testBit_eq
      intro i
      have hi := congrArg (fun z => Nat.testBit z i) h
      simp only [Nat.testBit_and, Nat.testBit_or] at hi
      rw [Nat.testBit_and]
      revert hi
      cases x.testBit i <;> cases y.testBit i <;> cases s.testBit i <;> simp
  · rintro ⟨h1, h2⟩
    apply Nat.eq_of_testBit_eq
    intro i
    have hi := congrArg (fun z => Nat.testBit z i) h1
    have hj := congrArg (fun z => Nat.testBit z i) h2
    simp only [Nat.testBit_and] at hi hj
    rw [Nat.testBit_and, Nat.testBit_or]
    revert hi hj
    cases x.testBit i <;> cases y.testBit i <;> cases s.testBit i <;> simp
theorem apart_sub {x y p q : Nat} (hp : x &&& p = x) (hq : y &&& q = y) (h : p &&& q = 0) : x &&& y = 0 := by
  rw [← hp, ← hq]
  apply Nat.eq_of_testBit_eq
  intro i
  have hi := congrArg (fun z => Nat.testBit z i) h
  simp only [Nat.testBit_and, Nat.zero_testBit] at hi ⊢
  revert hi
  cases x.testBit i <;> cases y.testBit i <;> cases p.testBit i <;> cases q.testBit i <;> simp
theorem pairsB_iff {ns ms : List Nat} {s : Nat} : pairsB ns ms s = true ↔ ∃ x ∈ ns, ∃ y ∈ ms, x &&& y = 0 ∧ x &&& s = x ∧ y &&& s = y := by
  unfold pairsB pairB
  simp only [List.any_eq_true, Bool.and_eq_true, decide_eq_true_eq, or_sub]
theorem pairsB_ap {T s : Nat} {ns ms : List Nat} (hn : ∀ x ∈ ns, x < 2 ^ T) (hm : ∀ x ∈ ms, x < 2 ^ T) : pairsB ns ms s = apB T (famB ns) (famB ms) s := by
  have h : pairsB ns ms s = true ↔ apB T (famB ns) (famB ms) s = true := by
    rw [pairsB_iff, apB_iff]
    constructor
    · rintro ⟨x, hx, y, hy, h0, h1, h2⟩
      exact ⟨x, y, hn x hx, hm y hy, h0, h1, h2, famB_iff.2 ⟨x, hx, Nat.and_self x⟩, famB_iff.2 ⟨y, hy, Nat.and_self y⟩⟩
    · rintro ⟨p, q, -, -, h0, h1, h2, h3, h4⟩
      obtain ⟨x, hx, hxp⟩ := famB_iff.1 h3
      obtain ⟨y, hy, hyq⟩ := famB_iff.1 h4
      exact ⟨x, hx, y, hy, apart_sub hxp hyq h0, sub_trans hxp h1, sub_trans hyq h2⟩
  cases h1 : pairsB ns ms s <;> cases h2 : apB T (famB ns) (famB ms) s <;> simp [h1, h2] at h ⊢
/-- As far as the first i of the one and, with the next one, the first j of the other have been looked through. -/
def apTo (ns ms : List Nat) (i j s : Nat) : Bool := pairsB (ns.take i) ms s || pairB (ms.take j) (ns.getD i 0) s
theorem apTo_start (ns ms : List Nat) (i : Nat) : apTo ns ms i 0 = pairsB (ns.take i) ms := by funext s; simp [apTo, pairB]
theorem apTo_skip {ns ms : List Nat} {i j : Nat} (hj : j < ms.length) (h : ns.getD i 0 &&& ms.getD j 0 ≠ 0) : apTo ns ms i (j + 1) = apTo ns ms i j := by
  funext s
  unfold apTo pairB
  rw [List.take_add_one, List.getElem?_eq_getElem hj, List.any_append]
  have h2 : ms.getD j 0 = ms[j] := by rw [List.getD_eq_getElem?_getD, List.getElem?_eq_getElem hj]; rfl
  rw [h2] at h
  generalize ns.getD i 0 = x at *
  simp [h]
theorem apTo_hit {ns ms : List Nat} {i j : Nat} (hj : j < ms.length) (h : ns.getD i 0 &&& ms.getD j 0 = 0) (s : Nat) : apTo ns ms i (j + 1) s = (apTo ns ms i j s || decide (s &&& (ns.getD i 0 ||| ms.getD j 0) = ns.getD i 0 ||| ms.getD j 0)) := by
  unfold apTo pairB
  rw [List.take_add_one, List.getElem?_eq_getElem hj, List.any_append]
  have h2 : ms.getD j 0 = ms[j] := by rw [List.getD_eq_getElem?_getD, List.getElem?_eq_getElem hj]; rfl
  rw [h2] at h ⊢
  generalize ns.getD i 0 = x at *
  simp [h, Bool.or_assoc]
theorem apTo_end {ns ms : List Nat} {i : Nat} (hi : i < ns.length) : apTo ns ms i ms.length = pairsB (ns.take (i + 1)) ms := by
  funext s
  unfold apTo pairsB
  rw [List.take_length, List.take_add_one, List.getElem?_eq_getElem hi, List.any_append, List.getD_eq_getElem?_getD, List.getElem?_eq_getElem hi]
  simp
end Go.Proofs.Ytlcgbmeneajfoaa
