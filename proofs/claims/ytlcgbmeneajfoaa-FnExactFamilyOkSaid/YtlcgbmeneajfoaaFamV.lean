/- Families: values of chapter 8's functions, and that a family is told by what it has. -/
import Derived.Test.YtlcgbmeneajfoaaFam
import Derived.Test.YtlcgbmeneajfoaaList4
namespace Go.Proofs.Ytlcgbmeneajfoaa
set_option maxRecDepth 100000

/-- In range, ascending, none has all of another one. -/
structure OkN (T : Nat) (ns : List Nat) : Prop where
  lt : ∀ n ∈ ns, n < 2 ^ T
  asc : ns.Pairwise (· < ·)
  anti : ns.Pairwise fun p q => p &&& q ≠ p
theorem OkN.sub {T : Nat} {ns : List Nat} (h : OkN T ns) {p q : Nat} (hp : p ∈ ns) (hq : q ∈ ns) (hs : q &&& p = q) : q = p := by
  have key : ∀ (ns : List Nat), ns.Pairwise (· < ·) → ns.Pairwise (fun p q => p &&& q ≠ p) → p ∈ ns → q ∈ ns → q = p := fun ns => by
    induction ns with
    | nil => intro _ _ hp; simp at hp
    | cons x xs ih =>
      intro ha hn hp hq
      rw [List.pairwise_cons] at ha hn
      rcases List.mem_cons.1 hp with e1 | hp2
      · rcases List.mem_cons.1 hq with e2 | hq2
        · rw [e1, e2]
        · have h1 := ha.1 q hq2
          have h2 : q ≤ p := by rw [← hs]; exact Nat.and_le_right
          omega
      · rcases List.mem_cons.1 hq with e2 | hq2
        · subst e2; exact absurd hs (hn.1 p hp2)
        · exact ih ha.2 hn.2 hp2 hq2
  exact key ns h.asc h.anti hp hq
theorem sorted_same : ∀ {xs ys : List Nat}, xs.Pairwise (· < ·) → ys.Pairwise (· < ·) → (∀ x, x ∈ xs ↔ x ∈ ys) → xs = ys
  | [], [], _, _, _ => rfl
  | [], y :: ys, _, _, h => by have := (h y).2 (by simp); simp at this
  | x :: xs, [], _, _, h => by have := (h x).1 (by simp); simp at this
  | x :: xs, y :: ys, hx, hy, h => by
    rw [List.pairwise_cons] at hx hy
    have e : x = y := by
      rcases List.mem_cons.1 ((h x).1 (by simp)) with h1 | h1
      · exact h1
      · rcases List.mem_cons.1 ((h y).2 (by simp)) with h2 | h2
        · exact h2.symm
        · have := hx.1 y h2
          have := hy.1 x h1
          omega
    subst e
    rw [sorted_same hx.2 hy.2 fun z => ?_]
    have hz := h z
    constructor
    · intro hm
      rcases List.mem_cons.1 (hz.1 (List.mem_cons_of_mem _ hm)) with e | e
      · subst e; exact absurd (hx.1 z hm) (Nat.lt_irrefl _)
      · exact e
    · intro hm
      rcases List.mem_cons.1 (hz.2 (List.mem_cons_of_mem _ hm)) with e | e
      · subst e; exact absurd (hy.1 z hm) (Nat.lt_irrefl _)
      · exact e
/-- A family has just its least states. -/
theorem fam_canon {T : Nat} {ns : List Nat} (hT : T ≤ 9) (h : OkN T ns) : leastL T (famB ns) = ns := by
  refine sorted_same (leastL_sorted T _) h.asc fun p => ?_
  rw [mem_leastL, least_iff]
  constructor
  · rintro ⟨hp, hin, hno⟩
    obtain ⟨q, hq, hqp⟩ := famB_iff.1 hin
    by_cases e : q = p
    · subst e; exact hq
    · have : ∃ i, p.testBit i = true ∧ q.testBit i = false := Classical.byContradiction fun hn => e (sub_anti hqp (sub_iff.2 fun i hi => by
        cases hc : q.testBit i with
        | true => rfl
        | false => exact absurd ⟨i, hi, hc⟩ hn))
      obtain ⟨i, hi, hqi⟩ := this
      have h1 := hno i (high_bit hp hi) hi
      have h2 : famB ns (p - 2 ^ i) = true := famB_iff.2 ⟨q, hq, sub_iff.2 fun j hj => by
        rw [(less_bits hT hp hi).2 j, sub_iff.1 hqp j hj]
        have : j ≠ i := fun e => by rw [e, hqi] at hj; cases hj
        simp [this]⟩
      rw [h1] at h2; cases h2
  · intro hp
    have hlt := h.lt p hp
    refine ⟨hlt, famB_iff.2 ⟨p, hp, Nat.and_self p⟩, fun k hk hb => ?_⟩
    cases hc : famB ns (p - 2 ^ k) with
    | false => rfl
    | true =>
      obtain ⟨q, hq, hqs⟩ := famB_iff.1 hc
      have hqp := sub_trans hqs (less_sub hT hlt hb)
      have e := h.sub hp hq hqp
      subst e
      have := sub_iff.1 hqs k hb
      rw [(less_bits hT hlt hb).2 k] at this
      simp at this
theorem leastL_ok {T : Nat} {A : Nat → Bool} (hT : T ≤ 9) (hA : UpS T A) : OkN T (leastL T A) := by
  refine ⟨fun n hn => (mem_leastL.1 hn).1, leastL_sorted T A, ?_⟩
  have hs := leastL_sorted T A
  have hm : ∀ n ∈ leastL T A, n < 2 ^ T ∧ leastB T A n = true := fun n hn => mem_leastL.1 hn
  revert hs hm
  generalize leastL T A = xs
  intro hs hm
  induction xs with
  | nil => exact List.Pairwise.nil
  | cons x xs ih =>
    rw [List.pairwise_cons] at hs ⊢
    refine ⟨fun y hy e => ?_, ih hs.2 fun n hn => hm n (List.mem_cons_of_mem _ hn)⟩
    have h1 := hs.1 y hy
    obtain ⟨a1, a2⟩ := hm x (by simp)
    obtain ⟨b1, b2⟩ := hm y (List.mem_cons_of_mem _ hy)
    have := least_anti hT hA a1 b1 a2 b2 e
    omega
/-- Two families of as many things that have the same states are the same. -/
theorem fam_same {T : Nat} {ns ms : List Nat} (hT : T ≤ 9) (hn : OkN T ns) (hm : OkN T ms) (h : ∀ s, s < 2 ^ T → famB ns s = famB ms s) : ns = ms := by
  rw [← fam_canon hT hn, ← fam_canon hT hm]
  exact leastL_congr h
theorem okN_nil (T : Nat) : OkN T [] := ⟨fun _ h => by simp at h, List.Pairwise.nil, List.Pairwise.nil⟩
theorem okN_zero (T : Nat) : OkN T [0] := ⟨fun n h => by simp at h; subst h; exact Nat.two_pow_pos T, by simp, by simp⟩

/-- Whether the k-th of a list fits behind those before it. -/
def elemOk (T : Nat) (xs : List Int) (k : Nat) : Bool :=
  (decide (0 ≤ xs.getD k 0) && decide (xs.getD k 0 ≤ (2 ^ T : Nat) - 1)) && ((decide (k = 0) || decide (xs.getD (k - 1) 0 < xs.getD k 0)) && (List.range k).all fun j => !decide ((xs.getD j 0).toNat &&& (xs.getD k 0).toNat = (xs.getD j 0).toNat))
def stepOk (T : Nat) (xs : List Int) : Nat → Bool
  | 0 => true
  | k + 1 => stepOk T xs k && elemOk T xs k
def famOkB (t : Int) (xs : List Int) : Bool := (decide (0 ≤ t) && decide (t ≤ 6)) && stepOk t.toNat xs xs.length
theorem stepOk_iff {T : Nat} {xs : List Int} : ∀ k, stepOk T xs k = true ↔ ∀ j, j < k → elemOk T xs j = true
  | 0 => by simp [stepOk]
  | k + 1 => by
    rw [stepOk, Bool.and_eq_true, stepOk_iff k]
    constructor
    · rintro ⟨h1, h2⟩ j hj
      by_cases e : j = k
      · subst e; exact h2
      · exact h1 j (by omega)
    · intro h; exact ⟨fun j hj => h j (by omega), h k (by omega)⟩

theorem okN_snoc {T : Nat} {ns : List Nat} {p : Nat} (h : OkN T ns) (h1 : p < 2 ^ T) (h2 : ∀ q ∈ ns, q < p) (h3 : ∀ q ∈ ns, q &&& p ≠ q) : OkN T (ns ++ [p]) := by
  refine ⟨fun n hn => ?_, ?_, ?_⟩
  · rcases List.mem_append.1 hn with hn | hn
    · exact h.lt n hn
    · simp at hn; subst hn; exact h1
  · rw [List.pairwise_append]
    exact ⟨h.asc, by simp, fun a ha b hb => by simp at hb; subst hb; exact h2 a ha⟩
  · rw [List.pairwise_append]
    exact ⟨h.anti, by simp, fun a ha b hb => by simp at hb; subst hb; exact h3 a ha⟩
theorem OkN.take {T : Nat} {ns : List Nat} (h : OkN T ns) (k : Nat) : OkN T (ns.take k) :=
  ⟨fun n hn => h.lt n (List.mem_of_mem_take hn), h.asc.sublist (List.take_sublist k ns), h.anti.sublist (List.take_sublist k ns)⟩
/-- A family's list, as far as it has been looked through. -/
theorem step_take {T : Nat} {xs : List Int} : ∀ k, k ≤ xs.length → (stepOk T xs k = true ↔ ∃ ns, xs.take k = natI ns ∧ OkN T ns)
  | 0, _ => by
    simp only [stepOk, List.take_zero, true_iff]
    exact ⟨[], rfl, okN_nil T⟩
  | k + 1, hk => by
    have hk1 : k < xs.length := by omega
    have htake : xs.take (k + 1) = xs.take k ++ [xs.getD k 0] := by
      rw [List.take_add_one]; simp [List.getD, hk1]
    rw [stepOk, Bool.and_eq_true, step_take k (by omega)]
    constructor
    · rintro ⟨⟨ns, h1, h2⟩, h3⟩
      have hlen : ns.length = k := by
        have := congrArg List.length h1
        rw [List.length_take, natI_length] at this; omega
      have hget : ∀ j, j < k → xs.getD j 0 = ((ns.getD j 0 : Nat) : Int) := fun j hj => by
        rw [← natI_getD, ← h1]; simp [List.getD, hj]
      simp only [elemOk, Bool.and_eq_true, Bool.or_eq_true, decide_eq_true_eq, List.all_eq_true, List.mem_range, Bool.not_eq_true', decide_eq_false_iff_not] at h3
      obtain ⟨⟨a1, a2⟩, a3, a4⟩ := h3
      obtain ⟨p, hp⟩ : ∃ p : Nat, xs.getD k 0 = p := ⟨(xs.getD k 0).toNat, by omega⟩
      rw [hp] at a2 a4 a3
      have hp2 : p < 2 ^ T := by have := Nat.two_pow_pos T; omega
      refine ⟨ns ++ [p], by rw [htake, h1, hp, natI_append]; rfl, okN_snoc h2 hp2 (fun q hq => ?_) fun q hq => ?_⟩
      · obtain ⟨j, hj, e⟩ := List.getElem_of_mem hq
        have hjk : j < k := by omega
        rcases a3 with a3 | a3
        · omega
        · rw [hget (k - 1) (by omega)] at a3
          by_cases e2 : j = k - 1
          · have : ns.getD (k - 1) 0 = q := by rw [← e2, ← e]; simp [List.getD, hj]
            omega
          · have h5 := List.pairwise_iff_getElem.1 h2.asc j (k - 1) hj (by omega) (by omega)
            have e3 : ns.getD (k - 1) 0 = ns[k - 1]'(by omega) := by simp [List.getD, show k - 1 < ns.length by omega]
            omega
      · obtain ⟨j, hj, e⟩ := List.getElem_of_mem hq
        have h5 := a4 j (by omega)
        rw [hget j (by omega)] at h5
        have e3 : ns.getD j 0 = q := by rw [← e]; simp [List.getD, hj]
        rw [e3] at h5
        exact h5
    · rintro ⟨ns, h1, h2⟩
      have hlen : ns.length = k + 1 := by
        have := congrArg List.length h1
        rw [List.length_take, natI_length] at this; omega
      have hget : ∀ j, j < k + 1 → xs.getD j 0 = ((ns.getD j 0 : Nat) : Int) := fun j hj => by
        rw [← natI_getD, ← h1]; simp [List.getD, hj]
      have hN : ∀ j, (hj : j < ns.length) → ns.getD j 0 = ns[j] := fun j hj => by simp [List.getD, hj]
      refine ⟨⟨ns.take k, ?_, h2.take k⟩, ?_⟩
      · have := congrArg (List.take k) h1
        rw [List.take_take, Nat.min_eq_left (by omega)] at this
        rw [this]; simp [natI, List.map_take]
      · simp only [elemOk, Bool.and_eq_true, Bool.or_eq_true, decide_eq_true_eq, List.all_eq_true, List.mem_range, Bool.not_eq_true', decide_eq_false_iff_not]
        rw [hget k (by omega)]
        have hpk := h2.lt (ns.getD k 0) (by rw [hN k (by omega)]; exact List.getElem_mem _)
        refine ⟨⟨by omega, by omega⟩, ?_, fun j hj => ?_⟩
        · by_cases e : k = 0
          · exact .inl e
          · right
            rw [hget (k - 1) (by omega), hN (k - 1) (by omega), hN k (by omega)]
            have := List.pairwise_iff_getElem.1 h2.asc (k - 1) k (by omega) (by omega) (by omega)
            omega
        · rw [hget j (by omega), hN j (by omega), hN k (by omega)]
          exact List.pairwise_iff_getElem.1 h2.anti j k (by omega) (by omega) hj
/-- What a family is. -/
theorem famOkB_iff {t : Int} {xs : List Int} : famOkB t xs = true ↔ ∃ (T : Nat) (ns : List Nat), t = T ∧ T ≤ 6 ∧ xs = natI ns ∧ OkN T ns := by
  unfold famOkB
  rw [Bool.and_eq_true, Bool.and_eq_true, decide_eq_true_eq, decide_eq_true_eq, step_take _ (Nat.le_refl _), List.take_length]
  constructor
  · rintro ⟨⟨h1, h2⟩, ns, h3, h4⟩
    exact ⟨t.toNat, ns, by omega, by omega, h3, h4⟩
  · rintro ⟨T, ns, rfl, h1, h2, h3⟩
    exact ⟨⟨by omega, by omega⟩, ns, h2, h3⟩
end Go.Proofs.Ytlcgbmeneajfoaa
