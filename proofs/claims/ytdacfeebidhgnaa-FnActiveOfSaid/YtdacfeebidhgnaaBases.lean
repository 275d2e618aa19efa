/- Least states of a net: how they are told by ranks and pieces. -/
import Derived.Test.YtdacfeebidhgnaaActs
import Derived.Test.YtdacfeebidhgnaaMore2
import Derived.Test.YtdacfeebidhgnaaList4
import Derived.Test.YtdacfeebidhgnaaBits7
namespace Go.Proofs.Ytdacfeebidhgnaa
open Go.RowKit
set_option maxRecDepth 100000

def rkN (es : List (Int × Int)) : Nat := rkA (endsL es) fun x => x
def rkS (es : List (Int × Int)) (s : Int) : Nat := rankL (endsL es) (bits s) fun x => x
/-- A least state of a net. -/
def leastS (es : List (Int × Int)) (s : Int) : Bool := baseB (endsL es) (fun x => x) (bits s)
def leastV (n : Int) (es : List (Int × Int)) (s : Int) : Bool := stateOkB n es s && leastS es s
theorem vall_lt (l : Nat) : 2 ^ l - 1 < 2 ^ l := by have := Nat.one_le_two_pow (n := l); omega
theorem rank_pieces {n s : Int} {es : List (Int × Int)} (h : stateOkB n es s = true) : piecesB n es s + rkS es s = n.toNat := by
  have h1 := rankL_cnt (endsL es) (bits s) (fun x => x) (endsL_ok (stateOkB_net h)) (good_start n.toNat)
  rw [cnt_id fun _ => rfl] at h1
  show pcs (endsOf es) (bits s) es.length n.toNat + _ = _
  unfold pcs
  rw [rep_ends]
  exact h1
theorem rank_card {s : Int} (es : List (Int × Int)) : (selL (endsL es) (bits s)).length = card (bits s) es.length := by
  rw [selL_card, endsL_length]
theorem rank_le_all (es : List (Int × Int)) (s : Int) : rkS es s ≤ rkN es := by
  unfold rkS rkN; rw [rankL_sel]; exact rkA_sublist (selL_sub _ _) _
/-- The state of all edges. -/
theorem selL_all : ∀ (es : List (Nat × Nat)) (T : Nat → Bool), (∀ i, i < es.length → T i = true) → selL es T = es
  | [], _, _ => rfl
  | e :: es, T, h => by
    simp only [selL]
    rw [if_pos (h 0 (by simp)), selL_all es _ fun i hi => h (i + 1) (by simp only [List.length_cons]; omega)]
theorem all_bits (l i : Nat) (h : i < l) : bits ((2 ^ l - 1 : Nat) : Int) i = true := by
  unfold bits
  rw [Int.toNat_natCast, Nat.testBit_two_pow_sub_one]
  simp [h]
theorem rank_all (es : List (Int × Int)) : rkS es ((2 ^ es.length - 1 : Nat) : Int) = rkN es := by
  unfold rkS rkN
  rw [rankL_sel, selL_all (endsL es) _ fun i hi => all_bits _ _ (by rwa [endsL_length] at hi)]
theorem pop_there {n s : Int} {es : List (Int × Int)} (h : stateOkB n es s = true) : pop s.toNat = card (bits s) es.length := by
  obtain ⟨m, rfl, hm, h5⟩ := state_nat h
  have h9 := (netOkB_iff.1 (stateOkB_net h)).2.1
  rw [Int.toNat_natCast]
  exact pop_card hm h9
theorem leastS_iff {es : List (Int × Int)} {s : Int} : leastS es s = true ↔ rkS es s = rkN es ∧ card (bits s) es.length = rkN es := by
  unfold leastS rkS rkN
  rw [baseB_iff, rank_card, rankL_sel]
theorem leastS_pieces {n s : Int} {es : List (Int × Int)} (h : stateOkB n es s = true) :
    leastS es s = (decide ((piecesB n es s : Int) = (piecesB n es ((2 ^ es.length - 1 : Nat) : Int) : Nat)) && decide (n - (piecesB n es ((2 ^ es.length - 1 : Nat) : Int) : Nat) = (pop s.toNat : Nat))) := by
  have hn := stateOkB_net h
  have h6 := (netOkB_iff.1 hn).1
  have hA := state_of hn (vall_lt es.length)
  have h1 := rank_pieces h
  have h2 := rank_pieces hA
  rw [rank_all] at h2
  have h3 := pop_there h
  rw [Bool.eq_iff_iff, leastS_iff, Bool.and_eq_true, decide_eq_true_eq, decide_eq_true_eq, ← h3]
  omega
theorem leastS_rank {n s : Int} {es : List (Int × Int)} (h : stateOkB n es s = true) : leastS es s = (freeB n es s && decide (rankI n es s = rankI n es ((2 ^ es.length - 1 : Nat) : Int))) := by
  have hn := stateOkB_net h
  have h6 := (netOkB_iff.1 hn).1
  have hA := state_of hn (vall_lt es.length)
  have h1 := rank_pieces h
  have h2 := rank_pieces hA
  rw [rank_all] at h2
  have h4 : rankI n es s = n - (piecesB n es s : Nat) := by unfold rankI; rw [if_pos h]
  have h5 : rankI n es ((2 ^ es.length - 1 : Nat) : Int) = n - (piecesB n es ((2 ^ es.length - 1 : Nat) : Int) : Nat) := by unfold rankI; rw [if_pos hA]
  have h7 := free_iff h
  rw [Bool.eq_iff_iff, leastS_iff, Bool.and_eq_true, decide_eq_true_eq, h7, h4, h5]
  have h8 : pcs (endsOf es) (bits s) es.length n.toNat = piecesB n es s := rfl
  rw [h8]
  omega
/-- All least states of a net. -/
def leastK' (es : List (Int × Int)) (k : Nat) : List Nat := (List.range k).filter fun t => leastS es (t : Nat)
def basesN (n : Int) (es : List (Int × Int)) : List Nat := if netOkB n es = true then leastK' es (2 ^ es.length) else []
theorem leastK'_hit {es : List (Int × Int)} {s : Nat} (h : leastS es (s : Nat) = true) : leastK' es (s + 1) = leastK' es s ++ [s] := by
  unfold leastK'; rw [List.range_succ, List.filter_append]; simp [h]
theorem leastK'_miss {es : List (Int × Int)} {s : Nat} (h : leastS es (s : Nat) = false) : leastK' es (s + 1) = leastK' es s := by
  unfold leastK'; rw [List.range_succ, List.filter_append]; simp [h]
theorem leastK'_len (es : List (Int × Int)) (s : Nat) : (leastK' es s).length ≤ s := by
  have := List.length_filter_le (fun t => leastS es (t : Nat)) (List.range s)
  rwa [List.length_range] at this
theorem basesN_len (n : Int) (es : List (Int × Int)) : (basesN n es).length ≤ 512 := by
  unfold basesN
  split
  · rename_i h
    have h9 := (netOkB_iff.1 h).2.1
    have h1 := leastK'_len es (2 ^ es.length)
    have : 2 ^ es.length ≤ 2 ^ 9 := Nat.pow_le_pow_right (by omega) h9
    omega
  · simp
theorem basesN_mem {n : Int} {es : List (Int × Int)} {t : Nat} : t ∈ basesN n es ↔ leastV n es (t : Nat) = true := by
  unfold basesN leastV leastK'
  split
  · rename_i h
    rw [List.mem_filter, List.mem_range, Bool.and_eq_true]
    refine and_congr_left' ⟨fun k => state_of h k, fun k => ?_⟩
    obtain ⟨m, e, hm, -⟩ := state_nat k
    omega
  · rename_i h
    refine ⟨fun k => by simp at k, fun k => ?_⟩
    rw [Bool.and_eq_true] at k
    exact absurd (stateOkB_net k.1) h
theorem xor_nat {x y : Nat} (hx : x < 2 ^ 62) (hy : y < 2 ^ 62) : Go.bits .xor .i64 (x : Int) (y : Int) = ((x ^^^ y : Nat) : Int) := by
  show IntKind.i64.wrap (((BitVec.ofInt 64 x ^^^ BitVec.ofInt 64 y).toNat : Nat) : Int) = _
  rw [ofInt_nat, ofInt_nat, BitVec.toNat_xor, ofNat_toNat hx, ofNat_toNat hy]
  have := Nat.xor_lt_two_pow hx hy
  exact IntWalk.i64_in _ (by omega)
theorem xor_bits (s k : Nat) : bits ((s ^^^ 2 ^ k : Nat) : Int) = flipT (bits (s : Nat)) k := by
  funext i
  unfold bits flipT
  rw [Int.toNat_natCast, Int.toNat_natCast, Nat.testBit_xor, Nat.testBit_two_pow]
  by_cases h : i = k
  · subst h; simp
  · rw [if_neg h]; simp [show ¬ k = i by omega]
theorem xor_lt {s k l : Nat} (hs : s < 2 ^ l) (hk : k < l) : s ^^^ 2 ^ k < 2 ^ l := Nat.xor_lt_two_pow hs (Nat.pow_lt_pow_right (by omega) hk)
/-- The edge at i is first. -/
def firstV (es : List (Int × Int)) (s : Nat) (i : Nat) : Bool := firstB (endsL es) (fun x => x) (bits (s : Nat)) i
theorem firstV_step {n : Int} {es : List (Int × Int)} (hn : netOkB n es = true) {s k j : Nat} (hs : s < 2 ^ es.length) (hk : k < es.length) (hj : j < k) :
    leastV n es (((s ^^^ 2 ^ k) ^^^ 2 ^ j : Nat) : Int) = baseB (endsL es) (fun x => x) (flipT (flipT (bits (s : Nat)) k) j) := by
  unfold leastV leastS
  rw [state_of hn (xor_lt (xor_lt hs hk) (by omega)), Bool.true_and, xor_bits, xor_bits]
theorem firstV_no {es : List (Int × Int)} {s k j : Nat} (hj : j < k) (h : baseB (endsL es) (fun x => x) (flipT (flipT (bits (s : Nat)) k) j) = true) : firstV es s k = false := by
  cases hf : firstV es s k with
  | false => rfl
  | true => rw [firstB_iff.1 hf j hj] at h; cases h
theorem firstV_yes {es : List (Int × Int)} {s k : Nat} (h : ∀ j, j < k → baseB (endsL es) (fun x => x) (flipT (flipT (bits (s : Nat)) k) j) = false) : firstV es s k = true := firstB_iff.2 h
theorem card_le_of {p q : Nat → Bool} : ∀ k, (∀ i, i < k → p i = true → q i = true) → card p k ≤ card q k
  | 0, _ => Nat.le_refl _
  | k + 1, h => by
    have h1 := card_le_of k fun i hi => h i (by omega)
    have h2 := h k (by omega)
    simp only [card]
    cases hp : p k <;> cases hq : q k <;> simp [hp, hq] at h2 ⊢ <;> omega
theorem card_sum {p q : Nat → Bool} : ∀ k, (∀ i, p i = true → q i = true → False) → card p k + card q k ≤ k
  | 0, _ => Nat.le_refl _
  | k + 1, h => by
    have h1 := card_sum k h
    have h2 := h k
    simp only [card]
    cases hp : p k <;> cases hq : q k <;> simp [hp, hq] at h2 ⊢ <;> omega
theorem act_sum (es : List (Nat × Nat)) (R : Nat → Nat) (T : Nat → Bool) : inC es R T + outC es R T ≤ es.length :=
  card_sum _ fun i h1 h2 => by rw [Bool.and_eq_true] at h1 h2; rw [h1.1] at h2; simp at h2
/-- How many edges that are there are first, and how many that are not. -/
def actI (es : List (Int × Int)) (s : Nat) : Nat := inC (endsL es) (fun x => x) (bits (s : Nat))
def actO (es : List (Int × Int)) (s : Nat) : Nat := outC (endsL es) (fun x => x) (bits (s : Nat))
def actIn (n : Int) (es : List (Int × Int)) (s : Int) : Int := if leastV n es s = true then (actI es s.toNat : Nat) else -1
def actOut (n : Int) (es : List (Int × Int)) (s : Int) : Int := if leastV n es s = true then (actO es s.toNat : Nat) else -1
theorem act_pop {es : List (Int × Int)} (h9 : es.length ≤ 9) {s : Nat} (_hs : s < 2 ^ es.length) :
    pop (setOf (firstV es s) es.length &&& s) = actI es s ∧ pop (setOf (firstV es s) es.length - (setOf (firstV es s) es.length &&& s)) = actO es s := by
  have h1 := setOf_lt (firstV es s) es.length
  have h2 : setOf (firstV es s) es.length &&& s < 2 ^ es.length := Nat.lt_of_le_of_lt Nat.and_le_left h1
  have h3 : setOf (firstV es s) es.length - (setOf (firstV es s) es.length &&& s) < 2 ^ es.length := Nat.lt_of_le_of_lt (Nat.sub_le _ _) h1
  rw [pop_card h2 h9, pop_card h3 h9]
  unfold actI actO inC outC
  rw [endsL_length]
  constructor
  · refine card_same _ fun i hi => ?_
    show _ = ((bits (s : Nat) i) && firstV es s i)
    unfold bits
    rw [Nat.testBit_and, setOf_bit, decide_eq_true hi, Bool.true_and, Int.toNat_natCast, Bool.and_comm]
  · refine card_same _ fun i hi => ?_
    show _ = (!(bits (s : Nat) i) && firstV es s i)
    unfold bits
    rw [less_and, setOf_bit, decide_eq_true hi, Bool.true_and, Int.toNat_natCast, Bool.and_comm]
theorem inC_le (es : List (Nat × Nat)) (R : Nat → Nat) (T : Nat → Bool) : inC es R T ≤ card T es.length := card_le_of _ fun i _ h => by rw [Bool.and_eq_true] at h; exact h.1
theorem xor_sub {s k : Nat} (hs : s < 512) (hk : k < 9) (h : s.testBit k = true) : s ^^^ 2 ^ k = s - 2 ^ k ∧ 2 ^ k ≤ s := by
  obtain ⟨h1, h2⟩ := less_bits (l := 9) (by omega) (by omega) h
  refine ⟨Nat.eq_of_testBit_eq fun i => ?_, h1⟩
  rw [h2, Nat.testBit_xor, Nat.testBit_two_pow]
  by_cases e : i = k
  · subst e; simp [h]
  · simp [e, show ¬ k = i by omega]
theorem xor_add {s k : Nat} (hs : s < 512) (hk : k < 9) (h : s.testBit k = false) : s ^^^ 2 ^ k = s + 2 ^ k := by
  have e : (2 : Nat) ^ 9 = 512 := rfl
  have h0 : s ^^^ 2 ^ k < 2 ^ 9 := xor_lt (by omega) (by omega)
  have hb : (s ^^^ 2 ^ k).testBit k = true := by rw [Nat.testBit_xor, Nat.testBit_two_pow, h]; simp
  obtain ⟨h1, h2⟩ := xor_sub (by omega) hk hb
  rw [Nat.xor_assoc, Nat.xor_self, Nat.xor_zero] at h1
  omega
theorem flip_less {T : Nat → Bool} {k : Nat} (h : T k = true) : flipT T k = lessT T k := by
  funext i; unfold flipT lessT
  by_cases e : i = k
  · subst e; simp [h]
  · simp [e]
theorem flip_more {T : Nat → Bool} {k : Nat} (h : T k = false) : flipT T k = moreT T k := by
  funext i; unfold flipT moreT
  by_cases e : i = k
  · subst e; simp [h]
  · simp [e]
theorem card_flip {T : Nat → Bool} {k m : Nat} (hk : k < m) : (T k = true → card (flipT T k) m + 1 = card T m) ∧ (T k = false → card (flipT T k) m = card T m + 1) := by
  constructor
  · intro h
    rw [flip_less h]
    exact (card_less h (fun i => by unfold lessT; simp) m hk).symm
  · intro h
    rw [flip_more h, card_more h hk]
/-- Two edges exchanged: a least state again just if one is there and the other is not, and the pieces are as many. -/
theorem leastS_exch {n : Int} {es : List (Int × Int)} (hn : netOkB n es = true) {s k j : Nat} (hs : s < 2 ^ es.length) (hk : k < es.length) (hj : j < k) (hb : leastS es (s : Nat) = true) :
    baseB (endsL es) (fun x => x) (flipT (flipT (bits (s : Nat)) k) j) = ((s.testBit k != s.testBit j) && decide ((piecesB n es (((s ^^^ 2 ^ k) ^^^ 2 ^ j : Nat) : Int) : Int) = (piecesB n es (s : Nat) : Nat))) := by
  have hX := xor_lt (xor_lt hs hk) (show j < es.length by omega)
  have hok := state_of hn hs
  have hokX := state_of hn hX
  have e : baseB (endsL es) (fun x => x) (flipT (flipT (bits (s : Nat)) k) j) = leastS es (((s ^^^ 2 ^ k) ^^^ 2 ^ j : Nat) : Int) := by
    unfold leastS; rw [xor_bits, xor_bits]
  have h1 := rank_pieces hok
  have h2 := rank_pieces hokX
  obtain ⟨b1, b2⟩ := leastS_iff.1 hb
  have c1 := card_flip (T := bits (s : Nat)) hk
  have c2 := card_flip (T := flipT (bits (s : Nat)) k) (show j < es.length by omega)
  rw [flipT_far _ (show j ≠ k by omega)] at c2
  have eb : ∀ i, bits (s : Nat) i = s.testBit i := fun i => by unfold bits; rw [Int.toNat_natCast]
  rw [eb] at c1 c2
  rw [e, Bool.eq_iff_iff, leastS_iff, Bool.and_eq_true, decide_eq_true_eq, xor_bits, xor_bits]
  rw [← xor_bits, ← xor_bits] at c2
  rw [← xor_bits] at c1
  rw [← xor_bits, ← xor_bits]
  cases hk' : s.testBit k with
  | false =>
    have d1 := c1.2 hk'
    cases hj' : s.testBit j with
    | false => have d2 := c2.2 hj'; simp; omega
    | true => have d2 := c2.1 hj'; simp; omega
  | true =>
    have d1 := c1.1 hk'
    cases hj' : s.testBit j with
    | false => have d2 := c2.2 hj'; simp; omega
    | true => have d2 := c2.1 hj'; simp; omega
theorem pow_named8 {l : Nat} (h : l ≤ 8) : ∃ P : Nat, 2 ^ l = P ∧ (1 ≤ P ∧ P < 512) ∧ wrap64 (2 ^ l) = (P : Int) ∧ IntKind.i64.wrap (2 ^ l) = (P : Int) := by
  obtain ⟨P, h1, h2, -, h4, h5⟩ := pow_named12 (show l ≤ 13 by omega)
  have h3 : 2 ^ l < 2 ^ 9 := Nat.pow_lt_pow_right (by omega) (by omega)
  refine ⟨P, h1, ⟨h2, ?_⟩, h4, h5⟩
  rw [← h1]; exact h3
theorem wrap_up {a b c : Nat} (h : c = a + b) (ha : a < 512) (hb : b < 512) : IntKind.i64.wrap ((a : Int) + (b : Int)) = (c : Int) := by subst h; rw [IntWalk.i64_in _ (by omega)]; omega
theorem wrap_down {a b c : Nat} (h : c = a - b) (hle : b ≤ a) (ha : a < 1024) : IntKind.i64.wrap ((a : Int) - (b : Int)) = (c : Int) := by subst h; rw [IntWalk.i64_in _ (by omega)]; omega
theorem eq_ff {a b : Nat} (h : ¬ a = b) : ((a : Int) == (b : Int)) = false := beq_eq_false_iff_ne.2 (by omega)
theorem exch_no {y M : Nat} (h : ¬ y = M) (a b : Bool) : ((a != b) && decide ((y : Int) = (M : Int))) = false := by rw [decide_eq_false (by omega), Bool.and_false]
theorem xor_small {x y : Nat} (hx : x < 512) (hy : y < 512) : Go.bits .xor .i64 (x : Int) (y : Int) = ((x ^^^ y : Nat) : Int) := xor_nat (by omega) (by omega)
theorem natBases_len (n : Int) (es : List (Int × Int)) : (natI (basesN n es)).length ≤ 512 := by rw [natI_length]; exact basesN_len n es
theorem wrap_pred {P Q : Nat} (h : P - 1 = Q) (h1 : 1 ≤ P) (h2 : P ≤ 512) : IntKind.i64.wrap ((P : Int) - 1) = (Q : Int) := by rw [IntWalk.i64_in _ (by omega)]; omega
theorem wrap_left {n : Int} {M : Nat} (h : 2 ≤ n ∧ n ≤ 6) (h2 : M ≤ n.toNat) : IntKind.i64.wrap (n - (M : Int)) = n - (M : Int) := IntWalk.i64_in _ (by omega)
/-- The class of worlds in which the loop runs. -/
structure OutTr (w u : World) (n : Int) (A : Option Addr) (cap : Nat) (es : List (Int × Int)) (v : Value) (xs : List Int) : Prop where
  net : ArgNet w u n A cap es
  own : OwnI u (w.heap.size + 1) v xs
theorem OutTr.next {w u u' : World} {n : Int} {A : Option Addr} {cap : Nat} {es : List (Int × Int)} {v : Value} {xs : List Int} (h : OutTr w u n A cap es v xs) (hb : Below u.heap.size u u') : OutTr w u' n A cap es v xs :=
  ⟨h.net.step hb h.net.lt, h.own.below hb h.own.lt⟩
theorem OutTr.on {w u : World} {n : Int} {A : Option Addr} {cap : Nat} {es : List (Int × Int)} {v : Value} {xs : List Int} (h : OutTr w u n A cap es v xs) : ∀ w', Below u.heap.size u w' → OutTr w w' n A cap es v xs := fun _ hb => h.next hb
theorem OutTr.drew {w u : World} {n : Int} {A : Option Addr} {cap : Nat} {es : List (Int × Int)} {v : Value} {xs : List Int} (h : OutTr w u n A cap es v xs) : OutTr w u.drew n A cap es v xs :=
  ⟨h.net.drew, h.own.drew⟩
end Go.Proofs.Ytdacfeebidhgnaa
