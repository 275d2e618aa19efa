/- Plain facts on families of states told by their least states. -/
import Derived.Test.YtlcgbmeneajfoaaHarris
namespace Go.Proofs.Ytlcgbmeneajfoaa
set_option maxRecDepth 100000

theorem rest_low {l s : Nat} (hs : s < 2 ^ l) : rest (l + 1) s = 2 ^ l + rest l s := by
  unfold rest; rw [Nat.pow_succ]; omega
theorem rest_high {l s : Nat} : rest (l + 1) (2 ^ l + s) = rest l s := by
  unfold rest; rw [Nat.pow_succ]; omega
/-- A family and what does not block it are all states. -/
theorem inAll_dual : ∀ (l : Nat) (A : Nat → Bool), inAll l A + inAll l (dual l A) = 2 ^ l
  | 0, A => by
    unfold inAll dual rest
    cases h : A 0 <;> simp [h]
  | l + 1, A => by
    have h0 := inAll_dual l A
    have h1 := inAll_dual l (fun s => A (2 ^ l + s))
    have e0 : inAll l (dual (l + 1) A) = inAll l (dual l (fun s => A (2 ^ l + s))) := List.countP_congr fun s hs => by
      have hs' : s < 2 ^ l := by simpa using hs
      unfold dual; rw [rest_low hs']
    have e1 : inAll l (fun s => dual (l + 1) A (2 ^ l + s)) = inAll l (dual l A) := List.countP_congr fun s _ => by
      unfold dual; rw [rest_high]
    rw [inAll_top l A, inAll_top l (dual (l + 1) A), e0, e1, Nat.pow_succ]
    omega
theorem inAll_sum {l : Nat} (A B : Nat → Bool) : inAll l (fun s => A s || B s) + inAll l (fun s => A s && B s) = inAll l A + inAll l B := by
  unfold inAll
  have h : ∀ xs : List Nat, xs.countP (fun s => A s || B s) + xs.countP (fun s => A s && B s) = xs.countP A + xs.countP B := fun xs => by
    induction xs with
    | nil => rfl
    | cons x xs ih =>
      simp only [List.countP_cons]
      cases A x <;> cases B x <;> simp <;> omega
  exact h _
/-- A family by a list: it has all of some set of it. -/
def famB (xs : List Nat) (s : Nat) : Bool := xs.any fun p => decide (p &&& s = p)
theorem famB_iff {xs : List Nat} {s : Nat} : famB xs s = true ↔ ∃ p ∈ xs, p &&& s = p := by
  unfold famB; simp [List.any_eq_true]
theorem famB_up (l : Nat) (xs : List Nat) : UpS l (famB xs) := fun s t _ _ hst h => by
  obtain ⟨p, hp, hps⟩ := famB_iff.1 h
  exact famB_iff.2 ⟨p, hp, sub_trans hps hst⟩
/-- Least states are enough. -/
theorem famB_least {l : Nat} {A : Nat → Bool} (hl : l ≤ 9) (hA : UpS l A) {s : Nat} (hs : s < 2 ^ l) : famB (leastL l A) s = A s := by
  rw [Bool.eq_iff_iff, famB_iff, least_in hl hA hs]
  constructor
  · rintro ⟨p, hp, h⟩; exact ⟨p, (mem_leastL.1 hp).1, (mem_leastL.1 hp).2, h⟩
  · rintro ⟨p, h1, h2, h⟩; exact ⟨p, mem_leastL.2 ⟨h1, h2⟩, h⟩
theorem leastB_congr {l : Nat} {A B : Nat → Bool} (h : ∀ s, s < 2 ^ l → A s = B s) {s : Nat} (hs : s < 2 ^ l) : leastB l A s = leastB l B s := by
  unfold leastB
  rw [h s hs]
  congr 1
  rw [Bool.eq_iff_iff, List.all_eq_true, List.all_eq_true]
  have e : ∀ k, A (s - 2 ^ k) = B (s - 2 ^ k) := fun k => h _ (Nat.lt_of_le_of_lt (Nat.sub_le _ _) hs)
  simp only [e]
theorem leastL_congr {l : Nat} {A B : Nat → Bool} (h : ∀ s, s < 2 ^ l → A s = B s) : leastL l A = leastL l B :=
  List.filter_congr fun s hs => leastB_congr h (by simpa using hs)
/-- Made from its least states it is the same. -/
theorem leastL_fam {l : Nat} {A : Nat → Bool} (hl : l ≤ 9) (hA : UpS l A) : leastL l (famB (leastL l A)) = leastL l A :=
  leastL_congr fun _ hs => famB_least hl hA hs
/-- What blocks: it has something in common with each. -/
def blockB (xs : List Nat) (s : Nat) : Bool := xs.all fun p => !decide (p &&& s = 0)
theorem block_dual {l : Nat} {A : Nat → Bool} (hl : l ≤ 9) (hA : UpS l A) {s : Nat} (hs : s < 2 ^ l) : blockB (leastL l A) s = dual l A s := by
  have hw := works_meets hl hA.dual hs
  rw [Bool.eq_iff_iff, hw]
  unfold blockB
  rw [List.all_eq_true]
  constructor
  · intro h c hc hlc
    have hlc' : leastB l A c = true := by
      rw [← leastB_congr (A := dual l (dual l A)) (fun t ht => dual_dual ht) hc]; exact hlc
    have := h c (mem_leastL.2 ⟨hc, hlc'⟩)
    simpa using this
  · intro h p hp
    obtain ⟨hp1, hp2⟩ := mem_leastL.1 hp
    have := h p hp1 (by rw [leastB_congr (A := dual l (dual l A)) (fun t ht => dual_dual ht) hp1]; exact hp2)
    simpa using this
/-- What blocks the blocker is the family. -/
theorem leastL_dual_dual {l : Nat} (A : Nat → Bool) : leastL l (dual l (dual l A)) = leastL l A := leastL_congr fun _ hs => dual_dual hs
/-- By things of their own, told by least states. -/
theorem apB_least {l : Nat} {A B : Nat → Bool} (hl : l ≤ 9) {s : Nat} :
    apB l A B s = true ↔ ∃ p ∈ leastL l A, ∃ q ∈ leastL l B, p &&& q = 0 ∧ (p ||| q) &&& s = (p ||| q) := by
  rw [apB_iff]
  constructor
  · rintro ⟨p, q, hp, hq, h1, h2, h3, h4, h5⟩
    obtain ⟨p', hp1, hp2, hp3⟩ := least_exists hl (p + 1) p (by omega) hp h4
    obtain ⟨q', hq1, hq2, hq3⟩ := least_exists hl (q + 1) q (by omega) hq h5
    refine ⟨p', mem_leastL.2 ⟨hp1, hp2⟩, q', mem_leastL.2 ⟨hq1, hq2⟩, disj_iff.2 fun i hi => ?_, sub_iff.2 fun i hi => ?_⟩
    · have h6 := disj_iff.1 h1 i (sub_iff.1 hp3 i hi)
      cases hb : q'.testBit i with
      | false => rfl
      | true => rw [sub_iff.1 hq3 i hb] at h6; cases h6
    · rw [Nat.testBit_or, Bool.or_eq_true] at hi
      rcases hi with hi | hi
      · exact sub_iff.1 (sub_trans hp3 h2) i hi
      · exact sub_iff.1 (sub_trans hq3 h3) i hi
  · rintro ⟨p, hp, q, hq, h1, h2⟩
    obtain ⟨hp1, hp2⟩ := mem_leastL.1 hp
    obtain ⟨hq1, hq2⟩ := mem_leastL.1 hq
    refine ⟨p, q, hp1, hq1, h1, sub_iff.2 fun i hi => ?_, sub_iff.2 fun i hi => ?_, (least_iff.1 hp2).1, (least_iff.1 hq2).1⟩
    · exact sub_iff.1 h2 i (by rw [Nat.testBit_or, hi]; rfl)
    · exact sub_iff.1 h2 i (by rw [Nat.testBit_or, hi, Bool.or_true])
end Go.Proofs.Ytlcgbmeneajfoaa
