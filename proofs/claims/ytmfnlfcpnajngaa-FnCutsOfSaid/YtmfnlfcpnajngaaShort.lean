/- Plain facts: the shortest path and the thinnest cut. -/
import Derived.Test.YtmfnlfcpnajngaaApart
namespace Go.Proofs.Ytmfnlfcpnajngaa
set_option maxRecDepth 100000

/-- The least number of things in the first k sets of a list; -1 without any. -/
def minTo (xs : List Nat) : Nat → Int
  | 0 => -1
  | k + 1 => if minTo xs k < 0 ∨ (pop (xs.getD k 0) : Int) < minTo xs k then (pop (xs.getD k 0) : Nat) else minTo xs k
theorem minTo_low (xs : List Nat) : ∀ k, -1 ≤ minTo xs k
  | 0 => by simp [minTo]
  | k + 1 => by
    have := minTo_low xs k
    rw [minTo]
    split <;> omega
theorem minTo_neg (xs : List Nat) : ∀ k, minTo xs k < 0 ↔ k = 0
  | 0 => by simp [minTo]
  | k + 1 => by
    have := minTo_neg xs k
    have h1 := minTo_low xs k
    rw [minTo]
    split <;> omega
theorem minTo_le (xs : List Nat) : ∀ k i, i < k → minTo xs k ≤ (pop (xs.getD i 0) : Nat)
  | 0, i, h => by omega
  | k + 1, i, h => by
    have h0 := minTo_neg xs k
    rw [minTo]
    by_cases hi : i = k
    · subst hi
      split <;> omega
    · have := minTo_le xs k i (by omega)
      split <;> omega
theorem minTo_in (xs : List Nat) : ∀ k, 0 < k → ∃ i, i < k ∧ minTo xs k = (pop (xs.getD i 0) : Nat)
  | 0, h => by omega
  | k + 1, _ => by
    rw [minTo]
    by_cases hc : minTo xs k < 0 ∨ (pop (xs.getD k 0) : Int) < minTo xs k
    · exact ⟨k, by omega, if_pos hc⟩
    · have h0 := minTo_neg xs k
      obtain ⟨i, hi, he⟩ := minTo_in xs k (by omega)
      exact ⟨i, by omega, by rw [if_neg hc, he]⟩
def minAll (xs : List Nat) : Int := minTo xs xs.length
theorem minAll_le {xs : List Nat} {x : Nat} (h : x ∈ xs) : minAll xs ≤ (pop x : Nat) := by
  obtain ⟨i, hi, rfl⟩ := List.getElem_of_mem h
  have := minTo_le xs xs.length i hi
  have e : xs.getD i 0 = xs[i] := by simp [List.getD, hi]
  rwa [e] at this
theorem minAll_in {xs : List Nat} (h : xs ≠ []) : ∃ x ∈ xs, minAll xs = (pop x : Nat) := by
  obtain ⟨i, hi, he⟩ := minTo_in xs xs.length (List.length_pos_iff.2 h)
  refine ⟨xs[i], List.getElem_mem hi, ?_⟩
  have e : xs.getD i 0 = xs[i] := by simp [List.getD, hi]
  rw [e] at he; exact he
theorem minAll_neg (xs : List Nat) : minAll xs < 0 ↔ xs = [] := by
  unfold minAll; rw [minTo_neg, List.length_eq_zero_iff]

theorem joinC_pos {n : Int} {es : List (Int × Int)} (hn : netOkB n es = true) {a b : Nat} (ha : 1 ≤ a ∧ (a : Int) ≤ n) (hb : 1 ≤ b ∧ (b : Int) ≤ n) (k : Nat) :
    0 < joinC es a b k ↔ ∃ s, s < 2 ^ es.length ∧ joinS es a b s = true ∧ pop s = k := by
  rw [← join_states hn ha hb, List.countP_pos_iff]
  constructor
  · rintro ⟨s, hs, h⟩
    rw [List.mem_range] at hs
    rw [Bool.and_eq_true, joinS_is hn ha hb hs] at h
    exact ⟨s, hs, h.1, by simpa using h.2⟩
  · rintro ⟨s, hs, h1, h2⟩
    refine ⟨s, by simpa using hs, ?_⟩
    rw [Bool.and_eq_true, joinS_is hn ha hb hs]
    exact ⟨h1, by simpa using h2⟩
/-- Without a path no state joins. -/
theorem short_none {n : Int} {es : List (Int × Int)} (hn : netOkB n es = true) {a b : Nat} (ha : 1 ≤ a ∧ (a : Int) ≤ n) (hb : 1 ≤ b ∧ (b : Int) ≤ n)
    (h : leastL es.length (joinS es a b) = []) (k : Nat) : joinC es a b k = 0 := by
  have h9 := (netOkB_iff.1 hn).2.1
  refine Nat.eq_zero_of_not_pos fun hp => ?_
  obtain ⟨s, hs, hj, _⟩ := (joinC_pos hn ha hb k).1 hp
  obtain ⟨p, hp1, hp2, _⟩ := (least_in h9 (joinS_up hn a b) hs).1 hj
  have := mem_leastL.2 ⟨hp1, hp2⟩
  rw [h] at this; simp at this
/-- The shortest path has as many edges as the least state that joins. -/
theorem short_some {n : Int} {es : List (Int × Int)} (hn : netOkB n es = true) {a b : Nat} (ha : 1 ≤ a ∧ (a : Int) ≤ n) (hb : 1 ≤ b ∧ (b : Int) ≤ n)
    (h : leastL es.length (joinS es a b) ≠ []) : ∃ v : Nat, minAll (leastL es.length (joinS es a b)) = v ∧ 0 < joinC es a b v ∧ (∀ i, i < v → joinC es a b i = 0) ∧ (v : Int) < n := by
  have h9 := (netOkB_iff.1 hn).2.1
  obtain ⟨p, hp, he⟩ := minAll_in h
  obtain ⟨hp1, hp2⟩ := mem_leastL.1 hp
  refine ⟨pop p, he, (joinC_pos hn ha hb _).2 ⟨p, hp1, (least_iff.1 hp2).1, rfl⟩, fun i hi => ?_, path_lt hn hp1 hp2⟩
  refine Nat.eq_zero_of_not_pos fun hpos => ?_
  obtain ⟨s, hs, hj, hps⟩ := (joinC_pos hn ha hb i).1 hpos
  obtain ⟨q, hq1, hq2, hqs⟩ := (least_in h9 (joinS_up hn a b) hs).1 hj
  have h1 := minAll_le (mem_leastL.2 ⟨hq1, hq2⟩)
  have h2 := pop_sub h9 hq1 hs hqs
  omega
/-- There is always a cut. -/
theorem cut_some {n : Int} {es : List (Int × Int)} (hn : netOkB n es = true) {a b : Nat} (hab : a ≠ b) : leastL es.length (dual es.length (joinS es a b)) ≠ [] := fun h => by
  have h9 := (netOkB_iff.1 hn).2.1
  obtain ⟨c, hc1, hc2, _⟩ := (least_in h9 (joinS_up hn a b).dual (atS_lt es a es.length)).1 (at_cut hn hab a (.inl rfl))
  have := mem_leastL.2 ⟨hc1, hc2⟩
  rw [h] at this; simp at this
/-- As many paths apart as the thinnest cut has edges; and these are at most those at either node. -/
theorem thin_apart {n : Int} {es : List (Int × Int)} (hn : netOkB n es = true) {a b : Nat} (hab : a ≠ b) :
    minAll (leastL es.length (dual es.length (joinS es a b))) = (aparts (leastL es.length (joinS es a b)) 0 : Nat) ∧
    ∀ v : Nat, v = a ∨ v = b → minAll (leastL es.length (dual es.length (joinS es a b))) ≤ (es.countP (endB v) : Nat) := by
  have h9 := (netOkB_iff.1 hn).2.1
  obtain ⟨c, hc, he⟩ := minAll_in (cut_some hn hab)
  obtain ⟨hc1, hc2⟩ := mem_leastL.1 hc
  have h1 := apart_le hn hc1 (least_iff.1 hc2).1
  have h2 := apart_ge hn (k := pop c) hab (fun d hd1 hd2 => by have := minAll_le (mem_leastL.2 ⟨hd1, hd2⟩); omega)
  refine ⟨by omega, fun v hv => ?_⟩
  obtain ⟨d, hd1, hd2, hds⟩ := (least_in h9 (joinS_up hn a b).dual (atS_lt es v es.length)).1 (at_cut hn hab v hv)
  have h3 := minAll_le (mem_leastL.2 ⟨hd1, hd2⟩)
  have h4 := pop_sub h9 hd1 (atS_lt es v es.length) hds
  rw [atS_pop h9] at h4
  omega
/-- Paths apart have edges of their own. -/
theorem apart_times {l : Nat} (hl : l ≤ 9) {v : Nat} : ∀ (xs : List Nat) (used : Nat), (∀ x ∈ xs, x < 2 ^ l ∧ v ≤ pop x) → aparts xs used * v ≤ card (fun i => !used.testBit i) l
  | [], used, _ => by simp [aparts]
  | x :: xs, used, h => by
    have h1 := apart_times hl (v := v) xs used (fun y hy => h y (by simp [hy]))
    have h2 := apart_times hl (v := v) xs (used ||| x) (fun y hy => h y (by simp [hy]))
    rw [aparts]
    by_cases hd : x &&& used = 0
    · rw [if_pos hd]
      have hx := h x (by simp)
      have hc : card (fun i => !(used ||| x).testBit i) l + pop x ≤ card (fun i => !used.testBit i) l := by
        rw [pop_card hx.1 hl]
        have : ∀ m, card (fun i => !(used ||| x).testBit i) m + card (fun i => x.testBit i) m ≤ card (fun i => !used.testBit i) m := by
          intro m
          induction m with
          | zero => simp [card]
          | succ m ih =>
            simp only [card, Nat.testBit_or]
            simp only [Nat.testBit_or] at ih
            have hdm := disj_iff.1 hd m
            generalize card (fun i => !(used.testBit i || x.testBit i)) m = A at ih ⊢
            generalize card (fun i => x.testBit i) m = B at ih ⊢
            generalize card (fun i => !used.testBit i) m = C at ih ⊢
            by_cases hxm : x.testBit m = true
            · have hu := hdm hxm
              simp [hu, hxm]; omega
            · have hxf : x.testBit m = false := by simpa using hxm
              by_cases hum : used.testBit m = true
              · simp [hxf, hum]; omega
              · have huf : used.testBit m = false := by simpa using hum
                simp [hxf, huf]; omega
        exact this l
      have h3 : (1 + aparts xs (used ||| x)) * v = v + aparts xs (used ||| x) * v := by rw [Nat.add_mul, Nat.one_mul]
      rcases Nat.le_total (aparts xs used) (1 + aparts xs (used ||| x)) with hm | hm
      · rw [Nat.max_eq_right hm, h3]; omega
      · rw [Nat.max_eq_left hm]; exact h1
    · rw [if_neg hd, Nat.max_eq_left (by omega)]; exact h1
end Go.Proofs.Ytmfnlfcpnajngaa
