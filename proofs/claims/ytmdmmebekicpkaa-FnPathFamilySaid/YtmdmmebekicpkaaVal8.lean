/- Values of chapter 8's functions, and what its laws say of them. -/
import Derived.Test.YtmdmmebekicpkaaFam
import Derived.Test.YtmdmmebekicpkaaSpec8
import Derived.Test.YtmdmmebekicpkaaTruth
import Derived.Lib.SlicesCompact
namespace Go.Proofs.Ytmdmmebekicpkaa
open Go.RowKit
set_option maxRecDepth 100000

def natOf (xs : List Int) : List Nat := xs.map Int.toNat
theorem natOf_natI (ns : List Nat) : natOf (natI ns) = ns := natI_back ns
theorem famOk_of {T : Nat} {ns : List Nat} (hT : T ≤ 6) (h : OkN T ns) : famOkB (T : Nat) (natI ns) = true := famOkB_iff.2 ⟨T, ns, rfl, hT, rfl, h⟩
theorem inI_of {T : Nat} {ns : List Nat} {s : Nat} (hT : T ≤ 6) (h : OkN T ns) (hs : s < 2 ^ T) : famInI (T : Nat) (natI ns) (s : Nat) = famB ns s := by
  unfold famInI
  rw [famOk_of hT h, natI_back, show ((T : Nat) : Int).toNat = T from rfl, show ((s : Nat) : Int).toNat = s from rfl]
  have : (decide ((0 : Int) ≤ (s : Nat)) && decide (((s : Nat) : Int) ≤ (2 ^ T : Nat) - 1)) = true := by simp only [Bool.and_eq_true, decide_eq_true_eq]; omega
  rw [this]; rfl
theorem countI_of {T : Nat} {ns : List Nat} (hT : T ≤ 6) (h : OkN T ns) : famCountI (T : Nat) (natI ns) = (famN T ns : Nat) := by
  unfold famCountI
  rw [if_pos (famOk_of hT h), natI_back]; rfl
theorem up_upS {T : Nat} (ns : List Nat) : UpS T (famB ns) := famB_up T ns

/-- One family, and what is told of it. -/
def blT (t : Int) (xs : List Int) : Int := if famOkB t xs = true then t else 0
def blL (t : Int) (xs : List Int) : List Int := if famOkB t xs = true then natI (famBl t.toNat (natOf xs)) else []
/-- A list of states, and the family that is made of it. -/
def fromOk (t : Int) (xs : List Int) : Bool := (decide (0 ≤ t) && decide (t ≤ 6)) && (decide (xs.length ≤ 64) && xs.all fun x => decide (0 ≤ x) && decide (x ≤ (2 ^ t.toNat : Nat) - 1))
def fromT (t : Int) (xs : List Int) : Int := if fromOk t xs = true then t else 0
def fromL (t : Int) (xs : List Int) : List Int := if fromOk t xs = true then natI (famOf t.toNat (natOf xs)) else []
/-- Two families of as many things. -/
def twoOk (t : Int) (xs : List Int) (s : Int) (ys : List Int) : Bool := famOkB t xs && (famOkB s ys && decide (t = s))
def twoT (t : Int) (xs : List Int) (s : Int) (ys : List Int) : Int := if twoOk t xs s ys = true then t else 0
def andL (t : Int) (xs : List Int) (s : Int) (ys : List Int) : List Int := if twoOk t xs s ys = true then natI (famAnd t.toNat (natOf xs) (natOf ys)) else []
def orL (t : Int) (xs : List Int) (s : Int) (ys : List Int) : List Int := if twoOk t xs s ys = true then natI (famOr t.toNat (natOf xs) (natOf ys)) else []
def apL (t : Int) (xs : List Int) (s : Int) (ys : List Int) : List Int := if twoOk t xs s ys = true then natI (famAp t.toNat (natOf xs) (natOf ys)) else []
/-- The family of paths. -/
def pfOk (n : Int) (es : List (Int × Int)) (a b : Int) : Bool := joinOkB n es a b && decide (es.length ≤ 6)
def pfT (n : Int) (es : List (Int × Int)) (a b : Int) : Int := if pfOk n es a b = true then es.length else 0
def pfL (n : Int) (es : List (Int × Int)) (a b : Int) : List Int := if pfOk n es a b = true then natI (pathsN n es a b) else []

theorem fromOk_iff {t : Int} {xs : List Int} : fromOk t xs = true ↔ ∃ (T : Nat) (ls : List Nat), t = T ∧ T ≤ 6 ∧ xs = natI ls ∧ ls.length ≤ 64 ∧ ∀ x ∈ ls, x < 2 ^ T := by
  unfold fromOk
  simp only [Bool.and_eq_true, decide_eq_true_eq, List.all_eq_true]
  constructor
  · rintro ⟨⟨h1, h2⟩, h3, h4⟩
    refine ⟨t.toNat, natOf xs, by omega, by omega, ?_, by rw [natOf, List.length_map]; exact h3, fun x hx => ?_⟩
    · unfold natOf natI
      rw [List.map_map]
      conv => lhs; rw [← List.map_id xs]
      refine List.map_congr_left fun x hx => ?_
      have := h4 x hx
      show x = ((x.toNat : Nat) : Int)
      omega
    · obtain ⟨y, hy, rfl⟩ := List.mem_map.1 hx
      have := h4 y hy
      omega
  · rintro ⟨T, ls, rfl, h1, rfl, h2, h3⟩
    refine ⟨⟨by omega, by omega⟩, by rw [natI_length]; exact h2, fun x hx => ?_⟩
    obtain ⟨y, hy, rfl⟩ := List.mem_map.1 hx
    have := h3 y hy
    rw [show ((T : Nat) : Int).toNat = T from rfl]
    omega
theorem twoOk_iff {t s : Int} {xs ys : List Int} : twoOk t xs s ys = true ↔ ∃ (T : Nat) (ns ms : List Nat), t = T ∧ s = T ∧ T ≤ 6 ∧ xs = natI ns ∧ ys = natI ms ∧ OkN T ns ∧ OkN T ms := by
  unfold twoOk
  rw [Bool.and_eq_true, Bool.and_eq_true, decide_eq_true_eq]
  constructor
  · rintro ⟨h1, h2, rfl⟩
    obtain ⟨T, ns, rfl, hT, rfl, hn⟩ := famOkB_iff.1 h1
    obtain ⟨T', ms, e, -, rfl, hm⟩ := famOkB_iff.1 h2
    obtain rfl : T = T' := by omega
    exact ⟨T, ns, ms, rfl, rfl, hT, rfl, rfl, hn, hm⟩
  · rintro ⟨T, ns, ms, rfl, rfl, hT, rfl, rfl, hn, hm⟩
    exact ⟨famOk_of hT hn, famOk_of hT hm, rfl⟩
theorem blL_of {T : Nat} {ns : List Nat} (hT : T ≤ 6) (h : OkN T ns) : blL (T : Nat) (natI ns) = natI (famBl T ns) := by
  unfold blL; rw [if_pos (famOk_of hT h), natOf_natI]; rfl
theorem two_of {T : Nat} {ns ms : List Nat} (hT : T ≤ 6) (hn : OkN T ns) (hm : OkN T ms) : twoOk (T : Nat) (natI ns) (T : Nat) (natI ms) = true := twoOk_iff.2 ⟨T, ns, ms, rfl, rfl, hT, rfl, rfl, hn, hm⟩
theorem andL_of {T : Nat} {ns ms : List Nat} (hT : T ≤ 6) (hn : OkN T ns) (hm : OkN T ms) : andL (T : Nat) (natI ns) (T : Nat) (natI ms) = natI (famAnd T ns ms) := by
  unfold andL; rw [if_pos (two_of hT hn hm), natOf_natI, natOf_natI]; rfl
theorem orL_of {T : Nat} {ns ms : List Nat} (hT : T ≤ 6) (hn : OkN T ns) (hm : OkN T ms) : orL (T : Nat) (natI ns) (T : Nat) (natI ms) = natI (famOr T ns ms) := by
  unfold orL; rw [if_pos (two_of hT hn hm), natOf_natI, natOf_natI]; rfl
theorem apL_of {T : Nat} {ns ms : List Nat} (hT : T ≤ 6) (hn : OkN T ns) (hm : OkN T ms) : apL (T : Nat) (natI ns) (T : Nat) (natI ms) = natI (famAp T ns ms) := by
  unfold apL; rw [if_pos (two_of hT hn hm), natOf_natI, natOf_natI]; rfl
/-- A call gives back a family of new memory, and whether there is one. -/
def GotFam (w : World) (t : Int) (xs : List Int) (ok : Bool) (e : Ending) (w' : World) : Prop :=
  ∃ A c, e = .returned (.tuple #[.agg #[.int .i64 t, .slice A xs.length c], .bool ok]) ∧ OwnI w' w.heap.size (.slice A xs.length c) xs ∧ Below w.heap.size w w'
end Go.Proofs.Ytmdmmebekicpkaa

/- What the rows of truths of chapter 8 hold. -/
namespace Go.Proofs.Ytmdmmebekicpkaa
open Go.RowKit
set_option maxRecDepth 100000

def hitAll (ns : List Nat) (s : Nat) : Bool := ns.all fun p => !decide (p &&& s = 0)
theorem rest_and {T p s : Nat} (hp : p < 2 ^ T) (hs : s < 2 ^ T) : p &&& rest T s = p ↔ p &&& s = 0 := by
  constructor
  · intro h
    apply Nat.eq_of_testBit_eq
    intro i
    have hi := congrArg (fun x => Nat.testBit x i) h
    simp only [Nat.testBit_and, rest_bit hs] at hi
    rw [Nat.testBit_and, Nat.zero_testBit]
    revert hi
    cases p.testBit i <;> cases s.testBit i <;> simp
  · intro h
    apply Nat.eq_of_testBit_eq
    intro i
    have hi := congrArg (fun x => Nat.testBit x i) h
    simp only [Nat.testBit_and, Nat.zero_testBit] at hi
    rw [Nat.testBit_and, rest_bit hs]
    by_cases hT : i < T
    · rw [decide_eq_true hT]
      revert hi
      cases p.testBit i <;> cases s.testBit i <;> simp
    · rw [Nat.testBit_lt_two_pow (Nat.lt_of_lt_of_le hp (Nat.pow_le_pow_right (by omega) (show T ≤ i by omega)))]
      simp
theorem hitAll_dual {T s : Nat} {ns : List Nat} (hs : s < 2 ^ T) (hn : ∀ x ∈ ns, x < 2 ^ T) : dual T (famB ns) s = hitAll ns s := by
  have h : dual T (famB ns) s = true ↔ hitAll ns s = true := by
    unfold dual hitAll
    rw [Bool.not_eq_true', ← Bool.not_eq_true, famB_iff, List.all_eq_true]
    constructor
    · intro h x hx
      cases hd : decide (x &&& s = 0) with
      | false => rfl
      | true => exact absurd ⟨x, hx, (rest_and (hn x hx) hs).2 (of_decide_eq_true hd)⟩ h
    · rintro h ⟨x, hx, he⟩
      have := h x hx
      rw [decide_eq_true ((rest_and (hn x hx) hs).1 he)] at this
      cases this
  cases h1 : dual T (famB ns) s <;> cases h2 : hitAll ns s <;> simp [h1, h2] at h ⊢
theorem hitAll_take_succ {s k : Nat} {ns : List Nat} (hk : k < ns.length) : hitAll (ns.take (k + 1)) s = (hitAll (ns.take k) s && !decide (ns.getD k 0 &&& s = 0)) := by
  unfold hitAll
  rw [List.take_add_one, List.all_append, List.getD_eq_getElem?_getD, List.getElem?_eq_getElem hk]
  simp
theorem putB_putB (A : Nat → Bool) (k : Nat) (a b : Bool) : putB (putB A k a) k b = putB A k b := by
  funext i; unfold putB; by_cases h : i = k <;> simp [h]
theorem putB_at (A : Nat → Bool) (k : Nat) (a : Bool) : putB A k a k = a := by simp [putB]
def mixB (A B : Nat → Bool) (k i : Nat) : Bool := if i < k then B i else A i
theorem mixB_zero (A B : Nat → Bool) : mixB A B 0 = A := by funext i; simp [mixB]
theorem mixB_put (A B : Nat → Bool) (k : Nat) : putB (mixB A B k) k (B k) = mixB A B (k + 1) := by
  funext i
  unfold putB mixB
  by_cases h : i = k
  · subst h; simp
  · by_cases h2 : i < k
    · simp [h, h2, show i < k + 1 by omega]
    · simp [h, h2, show ¬ i < k + 1 by omega]
theorem mixB_at (A B : Nat → Bool) (k : Nat) : mixB A B k k = A k := by simp [mixB]
theorem mixB_in {A B : Nat → Bool} {k i : Nat} (h : i < k) : mixB A B k i = B i := by simp [mixB, h]
end Go.Proofs.Ytmdmmebekicpkaa

/- What ApartFamilies' row of truths holds. -/
namespace Go.Proofs.Ytmdmmebekicpkaa
open Go.RowKit
set_option maxRecDepth 100000

def pairB (ms : List Nat) (x s : Nat) : Bool := ms.any fun y => decide (x &&& y = 0) && decide (s &&& (x ||| y) = x ||| y)
def pairsB (ns ms : List Nat) (s : Nat) : Bool := ns.any fun x => pairB ms x s
theorem or_sub {x y s : Nat} : s &&& (x ||| y) = x ||| y ↔ x &&& s = x ∧ y &&& s = y := by
  constructor
  · intro h
    constructor <;>
    · apply Nat.eq_of_testBit_eq
      intro i
      have hi := congrArg (fun z => Nat.testBit z i) h
      simp only [Nat.testBit_and, Nat.testBit_or] at hi
      rw [Nat.testBit_and]
      revert hi
      cases x.testBit i <;> cases y.testBit i <;> cases s.testBit i <;> simp
  · rintro ⟨h1, h2⟩
    apply Nat.eq_of_testBit_eq
    intro i
    have hi := congrArg (fun z => Nat.testBit z i) h1
    have hj := congrArg (fun z => Nat.testBit z i) h2
    simp only [Nat.testBit_and] at hi hj
    rw [Nat.testBit_and, Nat.testBit_or]
    revert hi hj
    cases x.testBit i <;> cases y.testBit i <;> cases s.testBit i <;> simp
theorem apart_sub {x y p q : Nat} (hp : x &&& p = x) (hq : y &&& q = y) (h : p &&& q = 0) : x &&& y = 0 := by
  rw [← hp, ← hq]
  apply Nat.eq_of_testBit_eq
  intro i
  have hi := congrArg (fun z => Nat.testBit z i) h
  simp only [Nat.testBit_and, Nat.zero_testBit] at hi ⊢
  revert hi
  cases x.testBit i <;> cases y.testBit i <;> cases p.testBit i <;> cases q.testBit i <;> simp
theorem pairsB_iff {ns ms : List Nat} {s : Nat} : pairsB ns ms s = true ↔ ∃ x ∈ ns, ∃ y ∈ ms, x &&& y = 0 ∧ x &&& s = x ∧ y &&& s = y := by
  unfold pairsB pairB
  simp only [List.any_eq_true, Bool.and_eq_true, decide_eq_true_eq, or_sub]
theorem pairsB_ap {T s : Nat} {ns ms : List Nat} (hn : ∀ x ∈ ns, x < 2 ^ T) (hm : ∀ x ∈ ms, x < 2 ^ T) : pairsB ns ms s = apB T (famB ns) (famB ms) s := by
  have h : pairsB ns ms s = true ↔ apB T (famB ns) (famB ms) s = true := by
    rw [pairsB_iff, apB_iff]
    constructor
    · rintro ⟨x, hx, y, hy, h0, h1, h2⟩
      exact ⟨x, y, hn x hx, hm y hy, h0, h1, h2, famB_iff.2 ⟨x, hx, Nat.and_self x⟩, famB_iff.2 ⟨y, hy, Nat.and_self y⟩⟩
    · rintro ⟨p, q, -, -, h0, h1, h2, h3, h4⟩
      obtain ⟨x, hx, hxp⟩ := famB_iff.1 h3
      obtain ⟨y, hy, hyq⟩ := famB_iff.1 h4
      exact ⟨x, hx, y, hy, apart_sub hxp hyq h0, sub_trans hxp h1, sub_trans hyq h2⟩
  cases h1 : pairsB ns ms s <;> cases h2 : apB T (famB ns) (famB ms) s <;> simp [h1, h2] at h ⊢
/-- As far as the first i of the one and, with the next one, the first j of the other have been looked through. -/
def apTo (ns ms : List Nat) (i j s : Nat) : Bool := pairsB (ns.take i) ms s || pairB (ms.take j) (ns.getD i 0) s
theorem apTo_start (ns ms : List Nat) (i : Nat) : apTo ns ms i 0 = pairsB (ns.take i) ms := by funext s; simp [apTo, pairB]
theorem apTo_skip {ns ms : List Nat} {i j : Nat} (hj : j < ms.length) (h : ns.getD i 0 &&& ms.getD j 0 ≠ 0) : apTo ns ms i (j + 1) = apTo ns ms i j := by
  funext s
  unfold apTo pairB
  rw [List.take_add_one, List.getElem?_eq_getElem hj, List.any_append]
  have h2 : ms.getD j 0 = ms[j] := by rw [List.getD_eq_getElem?_getD, List.getElem?_eq_getElem hj]; rfl
  rw [h2] at h
  generalize ns.getD i 0 = x at *
  simp [h]
theorem apTo_hit {ns ms : List Nat} {i j : Nat} (hj : j < ms.length) (h : ns.getD i 0 &&& ms.getD j 0 = 0) (s : Nat) : apTo ns ms i (j + 1) s = (apTo ns ms i j s || decide (s &&& (ns.getD i 0 ||| ms.getD j 0) = ns.getD i 0 ||| ms.getD j 0)) := by
  unfold apTo pairB
  rw [List.take_add_one, List.getElem?_eq_getElem hj, List.any_append]
  have h2 : ms.getD j 0 = ms[j] := by rw [List.getD_eq_getElem?_getD, List.getElem?_eq_getElem hj]; rfl
  rw [h2] at h ⊢
  generalize ns.getD i 0 = x at *
  simp [h, Bool.or_assoc]
theorem apTo_end {ns ms : List Nat} {i : Nat} (hi : i < ns.length) : apTo ns ms i ms.length = pairsB (ns.take (i + 1)) ms := by
  funext s
  unfold apTo pairsB
  rw [List.take_length, List.take_add_one, List.getElem?_eq_getElem hi, List.any_append, List.getD_eq_getElem?_getD, List.getElem?_eq_getElem hi]
  simp
end Go.Proofs.Ytmdmmebekicpkaa

/- What the program's lists of least states hold: sorted, each once, and sieved. No model in it. -/
namespace Go.Proofs.Ytmdmmebekicpkaa
open Go.RowKit

def sortI (xs : List Int) : List Int := xs.mergeSort fun x y => decide (x ≤ y)
def onceI (xs : List Int) : List Int := Lib.compactUpTo xs.toArray xs.length
theorem sortI_len (xs : List Int) : (sortI xs).length = xs.length := List.length_mergeSort xs
theorem sortI_mem {xs : List Int} {x : Int} : x ∈ sortI xs ↔ x ∈ xs := List.mem_mergeSort
theorem sortI_pair (xs : List Int) : (sortI xs).Pairwise (· ≤ ·) := by
  have h := List.pairwise_mergeSort (le := fun x y : Int => decide (x ≤ y)) (fun a b c h1 h2 => by simp only [decide_eq_true_eq] at h1 h2 ⊢; omega) (fun a b => by simp only [Bool.or_eq_true, decide_eq_true_eq]; omega) xs
  exact h.imp fun h => by simpa using h
theorem at_bang {xs : List Int} {j : Nat} (h : j < xs.length) : xs.toArray[j]! = xs[j] := by simp [h]
theorem once_to {xs : List Int} (h : xs.Pairwise (· ≤ ·)) : ∀ m, m ≤ xs.length → (Lib.compactUpTo xs.toArray m).Pairwise (· < ·) ∧ ∀ x, x ∈ Lib.compactUpTo xs.toArray m ↔ ∃ j, j < m ∧ xs.toArray[j]! = x
  | 0, _ => by
    have e : Lib.compactUpTo xs.toArray 0 = [] := rfl
    rw [e]; exact ⟨List.Pairwise.nil, fun x => by simp⟩
  | m + 1, hm => by
    obtain ⟨h1, h2⟩ := once_to h m (by omega)
    have mono : ∀ j, j < m → xs.toArray[j]! ≤ xs.toArray[m]! := fun j hj => by
      rw [at_bang (by omega), at_bang (by omega)]
      exact List.pairwise_iff_getElem.1 h j m (by omega) (by omega) hj
    rw [Lib.compactUpTo_succ]
    cases hk : Lib.keeps xs.toArray m with
    | true =>
      rw [if_pos rfl]
      refine ⟨?_, fun x => ?_⟩
      · rw [List.pairwise_append]
        refine ⟨h1, by simp, fun a ha b hb => ?_⟩
        rw [List.mem_singleton] at hb; subst hb
        obtain ⟨j, hj, rfl⟩ := (h2 a).1 ha
        have hm0 : m ≠ 0 := by omega
        have hne : xs.toArray[m]! ≠ xs.toArray[m - 1]! := by
          unfold Lib.keeps at hk
          rw [decide_eq_true_eq] at hk
          exact hk.resolve_left hm0
        have h3 := mono (m - 1) (by omega)
        have h4 : xs.toArray[j]! ≤ xs.toArray[m - 1]! := by
          rcases Nat.lt_or_ge j (m - 1) with hlt | hge
          · rw [at_bang (by omega), at_bang (by omega)]
            exact List.pairwise_iff_getElem.1 h j (m - 1) (by omega) (by omega) hlt
          · rw [show j = m - 1 by omega]; exact Int.le_refl _
        omega
      · rw [List.mem_append, h2]
        constructor
        · rintro (⟨j, hj, e⟩ | hx)
          · exact ⟨j, by omega, e⟩
          · rw [List.mem_singleton] at hx; exact ⟨m, by omega, hx.symm⟩
        · rintro ⟨j, hj, e⟩
          by_cases hjm : j = m
          · subst hjm; exact .inr (by rw [List.mem_singleton]; exact e.symm)
          · exact .inl ⟨j, by omega, e⟩
    | false =>
      rw [if_neg (by simp)]
      rw [List.append_nil]
      refine ⟨h1, fun x => ?_⟩
      rw [h2]
      unfold Lib.keeps at hk
      rw [decide_eq_false_iff_not] at hk
      have hm0 : m ≠ 0 := fun e => hk (.inl e)
      have he : xs.toArray[m]! = xs.toArray[m - 1]! := Classical.byContradiction fun hn => hk (.inr hn)
      constructor
      · rintro ⟨j, hj, e⟩; exact ⟨j, by omega, e⟩
      · rintro ⟨j, hj, e⟩
        by_cases hjm : j = m
        · subst hjm; exact ⟨j - 1, by omega, he.symm.trans e⟩
        · exact ⟨j, by omega, e⟩
theorem once_of {xs : List Int} (h : xs.Pairwise (· ≤ ·)) : (onceI xs).Pairwise (· < ·) ∧ ∀ x, x ∈ onceI xs ↔ x ∈ xs := by
  obtain ⟨h1, h2⟩ := once_to h xs.length (Nat.le_refl _)
  refine ⟨h1, fun x => ?_⟩
  rw [show onceI xs = Lib.compactUpTo xs.toArray xs.length from rfl, h2]
  constructor
  · rintro ⟨j, hj, rfl⟩; rw [at_bang hj]; exact List.getElem_mem hj
  · intro hx
    obtain ⟨j, hj, rfl⟩ := List.mem_iff_getElem.1 hx
    exact ⟨j, hj, at_bang hj⟩
theorem onceI_len (xs : List Int) : (onceI xs).length ≤ xs.length := by
  unfold onceI Lib.compactUpTo
  rw [List.length_map]
  exact Nat.le_trans (List.length_filter_le _ _) (by simp)
/-- A list of numbers from 0 on, sorted, each once. -/
theorem once_nat (ls : List Nat) : ∃ ks : List Nat, onceI (sortI (natI ls)) = natI ks ∧ ks.length ≤ ls.length ∧ ks.Pairwise (· < ·) ∧ ∀ k, k ∈ ks ↔ k ∈ ls := by
  obtain ⟨h1, h2⟩ := once_of (sortI_pair (natI ls))
  have hnn : ∀ x ∈ onceI (sortI (natI ls)), ∃ k : Nat, k ∈ ls ∧ x = k := fun x hx => by
    obtain ⟨k, hk, e⟩ := List.mem_map.1 (sortI_mem.1 ((h2 x).1 hx))
    exact ⟨k, hk, e.symm⟩
  have e : onceI (sortI (natI ls)) = natI (natOf (onceI (sortI (natI ls)))) := by
    generalize onceI (sortI (natI ls)) = zs at hnn
    unfold natI natOf
    rw [List.map_map]
    conv => lhs; rw [← List.map_id zs]
    refine List.map_congr_left fun x hx => ?_
    obtain ⟨k, _, rfl⟩ := hnn x hx
    rfl
  refine ⟨natOf (onceI (sortI (natI ls))), e, ?_, ?_, fun k => ?_⟩
  · have := onceI_len (sortI (natI ls))
    rw [sortI_len, natI_length] at this
    simpa [natOf] using this
  · rw [natOf, List.pairwise_map]
    exact h1.imp_of_mem fun {a b} ha hb hab => by
      obtain ⟨i, _, rfl⟩ := hnn a ha
      obtain ⟨j, _, rfl⟩ := hnn b hb
      simp at hab ⊢; omega
  · rw [natOf, List.mem_map]
    constructor
    · rintro ⟨x, hx, rfl⟩
      obtain ⟨j, hj, rfl⟩ := hnn x hx
      exact hj
    · intro hk
      exact ⟨(k : Int), (h2 _).2 (sortI_mem.2 (List.mem_map.2 ⟨k, hk, rfl⟩)), rfl⟩

/-- What of a list has not all things of another one of it. -/
def moreB (ks : List Nat) (s : Nat) : Bool := (ks.filter fun o => !decide (o = s)).any fun p => decide (s &&& p = p)
def keptN (ks : List Nat) : List Nat := ks.filter fun s => !moreB ks s
theorem moreB_iff {ks : List Nat} {s : Nat} : moreB ks s = true ↔ ∃ p ∈ ks, p ≠ s ∧ p &&& s = p := by
  unfold moreB
  rw [List.any_eq_true]
  constructor
  · rintro ⟨p, hp, h⟩
    rw [List.mem_filter] at hp
    exact ⟨p, hp.1, by simpa using hp.2, by rw [Nat.and_comm]; simpa using h⟩
  · rintro ⟨p, hp, hne, h⟩
    exact ⟨p, List.mem_filter.2 ⟨hp, by simpa using hne⟩, by rw [Nat.and_comm] at h; simpa using h⟩
theorem mem_famOf {T : Nat} (hT : T ≤ 9) {ls : List Nat} (hl : ∀ x ∈ ls, x < 2 ^ T) {p : Nat} : p ∈ famOf T ls ↔ p ∈ ls ∧ ∀ q ∈ ls, q &&& p = q → q = p := by
  constructor
  · intro hp
    refine ⟨famOf_mem hT hp, fun q hq hqp => Classical.byContradiction fun e => ?_⟩
    obtain ⟨h1, h2⟩ := mem_leastL.1 hp
    obtain ⟨hin, hno⟩ := least_iff.1 h2
    have : ∃ i, p.testBit i = true ∧ q.testBit i = false := Classical.byContradiction fun hn => e (sub_anti hqp (sub_iff.2 fun i hi => by
      cases hc : q.testBit i with
      | true => rfl
      | false => exact absurd ⟨i, hi, hc⟩ hn))
    obtain ⟨i, hi, hqi⟩ := this
    have h3 := hno i (high_bit h1 hi) hi
    have h4 : famB ls (p - 2 ^ i) = true := famB_iff.2 ⟨q, hq, sub_iff.2 fun j hj => by
      rw [(less_bits hT h1 hi).2 j, sub_iff.1 hqp j hj]
      have : j ≠ i := fun e => by rw [e, hqi] at hj; cases hj
      simp [this]⟩
    rw [h3] at h4; cases h4
  · rintro ⟨hp, hno⟩
    refine mem_leastL.2 ⟨hl p hp, least_iff.2 ⟨famB_iff.2 ⟨p, hp, Nat.and_self p⟩, fun k hk hbit => ?_⟩⟩
    cases h : famB ls (p - 2 ^ k) with
    | false => rfl
    | true =>
      obtain ⟨q, hq, hqs⟩ := famB_iff.1 h
      have hqp : q &&& p = q := sub_iff.2 fun j hj => by
        have := sub_iff.1 hqs j hj
        rw [(less_bits hT (hl p hp) hbit).2 j] at this
        simp at this; exact this.1
      have e := hno q hq hqp
      subst e
      have := sub_iff.1 hqs k hbit
      rw [(less_bits hT (hl q hq) hbit).2 k] at this
      simp at this
/-- The program's least states are those of the family. -/
theorem kept_least {T : Nat} (hT : T ≤ 9) {ls ks : List Nat} (hl : ∀ x ∈ ls, x < 2 ^ T) (hs : ks.Pairwise (· < ·)) (hm : ∀ k, k ∈ ks ↔ k ∈ ls) : keptN ks = famOf T ls := by
  refine sorted_same (hs.filter _) (famOf_ok T hT ls).asc fun p => ?_
  rw [mem_famOf hT hl, keptN, List.mem_filter, hm, Bool.not_eq_true']
  refine and_congr_right fun hp => ?_
  constructor
  · intro h q hq hqp
    refine Classical.byContradiction fun hn => ?_
    rw [moreB_iff.2 ⟨q, (hm q).2 hq, hn, hqp⟩] at h; cases h
  · intro h
    cases hc : moreB ks p with
    | false => rfl
    | true =>
      obtain ⟨q, hq, hne, hqp⟩ := moreB_iff.1 hc
      exact absurd (h q ((hm q).1 hq) hqp) hne

/-- Each of a list with each one of another list that fits it. -/
def withOne (fits : Nat → Nat → Bool) (ms : List Nat) (x : Nat) : List Nat := (ms.filter (fits x)).map fun y => x ||| y
def withEach (fits : Nat → Nat → Bool) (ns ms : List Nat) : List Nat := ns.flatMap (withOne fits ms)
theorem mem_withEach {fits : Nat → Nat → Bool} {ns ms : List Nat} {z : Nat} : z ∈ withEach fits ns ms ↔ ∃ x ∈ ns, ∃ y ∈ ms, fits x y = true ∧ x ||| y = z := by
  unfold withEach withOne
  rw [List.mem_flatMap]
  constructor
  · rintro ⟨x, hx, h⟩
    obtain ⟨y, hy, e⟩ := List.mem_map.1 h
    rw [List.mem_filter] at hy
    exact ⟨x, hx, y, hy.1, hy.2, e⟩
  · rintro ⟨x, hx, y, hy, h, e⟩
    exact ⟨x, hx, List.mem_map.2 ⟨y, List.mem_filter.2 ⟨hy, h⟩, e⟩⟩
theorem withEach_lt {T : Nat} {fits : Nat → Nat → Bool} {ns ms : List Nat} (hn : ∀ x ∈ ns, x < 2 ^ T) (hm : ∀ x ∈ ms, x < 2 ^ T) : ∀ z ∈ withEach fits ns ms, z < 2 ^ T := fun z hz => by
  obtain ⟨x, hx, y, hy, _, rfl⟩ := mem_withEach.1 hz
  exact Nat.or_lt_two_pow (hn x hx) (hm y hy)
theorem withOne_len (fits : Nat → Nat → Bool) (ms : List Nat) (x : Nat) : (withOne fits ms x).length ≤ ms.length := by
  unfold withOne; rw [List.length_map]; exact List.length_filter_le _ _
theorem withEach_len (fits : Nat → Nat → Bool) (ms : List Nat) : ∀ ns : List Nat, (withEach fits ns ms).length ≤ ns.length * ms.length
  | [] => by simp [withEach]
  | x :: ns => by
    have h1 := withEach_len fits ms ns
    have h2 := withOne_len fits ms x
    unfold withEach at h1 ⊢
    rw [List.flatMap_cons, List.length_append, List.length_cons, Nat.succ_mul]
    omega
theorem and_of {T : Nat} (ns ms : List Nat) : famOf T (withEach (fun _ _ => true) ns ms) = famAnd T ns ms := leastL_congr fun s _ => by
  rw [Bool.eq_iff_iff, Bool.and_eq_true, famB_iff, famB_iff, famB_iff]
  constructor
  · rintro ⟨z, hz, h⟩
    obtain ⟨x, hx, y, hy, _, rfl⟩ := mem_withEach.1 hz
    rw [Nat.and_comm] at h
    obtain ⟨h1, h2⟩ := or_sub.1 h
    exact ⟨⟨x, hx, h1⟩, ⟨y, hy, h2⟩⟩
  · rintro ⟨⟨x, hx, h1⟩, ⟨y, hy, h2⟩⟩
    refine ⟨x ||| y, mem_withEach.2 ⟨x, hx, y, hy, rfl, rfl⟩, ?_⟩
    rw [Nat.and_comm]; exact or_sub.2 ⟨h1, h2⟩
theorem ap_of {T : Nat} {ns ms : List Nat} (hn : ∀ x ∈ ns, x < 2 ^ T) (hm : ∀ x ∈ ms, x < 2 ^ T) : famOf T (withEach (fun x y => decide (x &&& y = 0)) ns ms) = famAp T ns ms := leastL_congr fun s _ => by
  rw [← pairsB_ap hn hm, Bool.eq_iff_iff, famB_iff, pairsB_iff]
  constructor
  · rintro ⟨z, hz, h⟩
    obtain ⟨x, hx, y, hy, h0, rfl⟩ := mem_withEach.1 hz
    rw [Nat.and_comm] at h
    obtain ⟨h1, h2⟩ := or_sub.1 h
    exact ⟨x, hx, y, hy, by simpa using h0, h1, h2⟩
  · rintro ⟨x, hx, y, hy, h0, h1, h2⟩
    refine ⟨x ||| y, mem_withEach.2 ⟨x, hx, y, hy, by simpa using h0, rfl⟩, ?_⟩
    rw [Nat.and_comm]; exact or_sub.2 ⟨h1, h2⟩
theorem or_of {T : Nat} (ns ms : List Nat) : famOf T (ns ++ ms) = famOr T ns ms := leastL_congr fun s _ => by
  unfold famB; rw [List.any_append]
theorem hitAll_up {ns : List Nat} {s t : Nat} (h : s &&& t = s) (hs : hitAll ns s = true) : hitAll ns t = true := by
  unfold hitAll at hs ⊢
  rw [List.all_eq_true] at hs ⊢
  intro p hp
  have := hs p hp
  rw [Bool.not_eq_true', decide_eq_false_iff_not] at this ⊢
  intro e
  refine this (Nat.eq_of_testBit_eq fun i => ?_)
  have e1 : (p &&& t).testBit i = false := by rw [e]; exact Nat.zero_testBit i
  rw [Nat.testBit_and] at e1 ⊢
  rw [Nat.zero_testBit]
  cases hp1 : p.testBit i with
  | false => rfl
  | true =>
    cases hs1 : s.testBit i with
    | false => rfl
    | true => rw [hp1, sub_iff.1 h i hs1] at e1; cases e1
theorem bl_of {T : Nat} {ns : List Nat} (hn : ∀ x ∈ ns, x < 2 ^ T) : famOf T ((List.range (2 ^ T)).filter (hitAll ns)) = famBl T ns := leastL_congr fun s hs => by
  rw [hitAll_dual hs hn, Bool.eq_iff_iff, famB_iff]
  constructor
  · rintro ⟨p, hp, h⟩
    exact hitAll_up h (List.mem_filter.1 hp).2
  · intro h
    exact ⟨s, List.mem_filter.2 ⟨List.mem_range.2 hs, h⟩, Nat.and_self s⟩
theorem famOf_least {T : Nat} (hT : T ≤ 9) {ns : List Nat} (h : OkN T ns) : famOf T ns = ns := fam_canon hT h

/-- Whether each number of a list tells a state of so many things. -/
def listOkB (t : Int) (xs : List Int) : Bool := (decide (0 ≤ t) && decide (t ≤ 6)) && xs.all fun x => decide (0 ≤ x) && decide (x < (2 ^ t.toNat : Nat))
theorem listOk_iff {t : Int} {xs : List Int} : listOkB t xs = true ↔ ∃ (T : Nat) (ls : List Nat), t = T ∧ T ≤ 6 ∧ xs = natI ls ∧ ∀ x ∈ ls, x < 2 ^ T := by
  unfold listOkB
  simp only [Bool.and_eq_true, decide_eq_true_eq, List.all_eq_true]
  constructor
  · rintro ⟨⟨h1, h2⟩, h3⟩
    refine ⟨t.toNat, natOf xs, by omega, by omega, ?_, fun x hx => ?_⟩
    · unfold natI natOf
      rw [List.map_map]
      conv => lhs; rw [← List.map_id xs]
      refine List.map_congr_left fun x hx => ?_
      have := (h3 x hx).1
      simp; omega
    · obtain ⟨y, hy, rfl⟩ := List.mem_map.1 hx
      have := h3 y hy
      omega
  · rintro ⟨T, ls, rfl, h1, rfl, h2⟩
    refine ⟨⟨by omega, by omega⟩, fun x hx => ?_⟩
    obtain ⟨y, hy, rfl⟩ := List.mem_map.1 hx
    have := h2 y hy
    simp only [Int.toNat_natCast]
    omega
theorem fromOk_list {t : Int} {xs : List Int} : fromOk t xs = (decide (xs.length ≤ 64) && listOkB t xs) := by
  rw [Bool.eq_iff_iff, Bool.and_eq_true, fromOk_iff, listOk_iff, decide_eq_true_eq]
  constructor
  · rintro ⟨T, ls, rfl, h1, rfl, h2, h3⟩
    exact ⟨by rw [natI_length]; exact h2, T, ls, rfl, h1, rfl, h3⟩
  · rintro ⟨h2, T, ls, rfl, h1, rfl, h3⟩
    exact ⟨T, ls, rfl, h1, rfl, by rwa [natI_length] at h2, h3⟩
theorem natI_inj {xs ys : List Nat} (h : natI xs = natI ys) : xs = ys := by
  rw [← natOf_natI xs, ← natOf_natI ys, h]
/-- A family's list is one that nothing is left out of. -/
theorem famOk_list {T : Nat} {ls : List Nat} (hT : T ≤ 6) : famOkB (T : Nat) (natI ls) = decide (natI ls = natI (famOf T ls)) := by
  rw [Bool.eq_iff_iff, famOkB_iff, decide_eq_true_eq]
  constructor
  · rintro ⟨T', ns, e1, h1, e2, h2⟩
    obtain rfl : T = T' := by omega
    obtain rfl := natI_inj e2
    rw [famOf_least (by omega) h2]
  · intro e
    have e := natI_inj e
    exact ⟨T, ls, rfl, hT, rfl, by rw [e]; exact famOf_ok T (by omega) ls⟩
theorem famOk_not {t : Int} {xs : List Int} (h : listOkB t xs = false) : famOkB t xs = false := by
  cases hf : famOkB t xs with
  | false => rfl
  | true =>
    obtain ⟨T, ns, rfl, h1, rfl, h2⟩ := famOkB_iff.1 hf
    rw [listOk_iff.2 ⟨T, ns, rfl, h1, rfl, h2.lt⟩] at h; cases h
end Go.Proofs.Ytmdmmebekicpkaa

/- How long the lists of chapter 8's answers are. -/
namespace Go.Proofs.Ytmdmmebekicpkaa
theorem nat_len {T : Nat} {ns : List Nat} (hT : T ≤ 6) (h : OkN T ns) : (natI ns).length ≤ 64 := by
  rw [natI_length]
  have h1 := h.len
  have h2 := pow_64 hT
  omega
theorem blL_len (t : Int) (xs : List Int) : (blL t xs).length ≤ 64 := by
  unfold blL
  split
  · rename_i h
    obtain ⟨T, ns, rfl, h1, rfl, h2⟩ := famOkB_iff.1 h
    exact nat_len h1 (famBl_ok T (by omega) _)
  · simp
theorem fromL_len (t : Int) (xs : List Int) : (fromL t xs).length ≤ 64 := by
  unfold fromL
  split
  · rename_i h
    obtain ⟨T, ls, rfl, h1, rfl, h2, h3⟩ := fromOk_iff.1 h
    exact nat_len h1 (famOf_ok T (by omega) _)
  · simp
theorem andL_len (t : Int) (xs : List Int) (s : Int) (ys : List Int) : (andL t xs s ys).length ≤ 64 := by
  unfold andL
  split
  · rename_i h
    obtain ⟨T, ns, ms, rfl, rfl, h1, rfl, rfl, h2, h3⟩ := twoOk_iff.1 h
    exact nat_len h1 (famAnd_ok T (by omega) _ _)
  · simp
theorem orL_len (t : Int) (xs : List Int) (s : Int) (ys : List Int) : (orL t xs s ys).length ≤ 64 := by
  unfold orL
  split
  · rename_i h
    obtain ⟨T, ns, ms, rfl, rfl, h1, rfl, rfl, h2, h3⟩ := twoOk_iff.1 h
    exact nat_len h1 (famOr_ok T (by omega) _ _)
  · simp
theorem apL_len (t : Int) (xs : List Int) (s : Int) (ys : List Int) : (apL t xs s ys).length ≤ 64 := by
  unfold apL
  split
  · rename_i h
    obtain ⟨T, ns, ms, rfl, rfl, h1, rfl, rfl, h2, h3⟩ := twoOk_iff.1 h
    exact nat_len h1 (famAp_ok T (by omega) _ _)
  · simp
end Go.Proofs.Ytmdmmebekicpkaa
