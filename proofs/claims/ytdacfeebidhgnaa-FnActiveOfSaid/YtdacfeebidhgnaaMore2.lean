/- What the laws on pieces ask, of a net and a state. -/
import Derived.Test.YtdacfeebidhgnaaSpec2
namespace Go.Proofs.Ytdacfeebidhgnaa
open Go.RowKit
set_option maxRecDepth 100000

theorem piecesIn_is (n s : Int) (A : Option Addr) (cap : Nat) (es : List (Int × Int)) (w : World) (hes : EdgesIn w w.heap.size A es) (hl : es.length ≤ 1048576) (v : Int) (h : piecesI n es s = v) :
    Calls Try.prog 49 #[.agg #[.int .i64 n, .slice A es.length cap], .int .i64 s] w fun e w' => e = .returned (.int .i64 v) ∧ Below w.heap.size w w' := h ▸ piecesIn_any n s A cap es w hes hl
theorem wholeOk_is (n s : Int) (A : Option Addr) (cap : Nat) (es : List (Int × Int)) (w : World) (hes : EdgesIn w w.heap.size A es) (hl : es.length ≤ 1048576) (v : Bool) (h : wholeB n es s = v) :
    Calls Try.prog 56 #[.agg #[.int .i64 n, .slice A es.length cap], .int .i64 s] w fun e w' => e = .returned (.bool v) ∧ Below w.heap.size w w' := h ▸ wholeOk_any n s A cap es w hes hl
theorem rankOf_is (n s : Int) (A : Option Addr) (cap : Nat) (es : List (Int × Int)) (w : World) (hes : EdgesIn w w.heap.size A es) (hl : es.length ≤ 1048576) (v : Int) (h : rankI n es s = v) :
    Calls Try.prog 54 #[.agg #[.int .i64 n, .slice A es.length cap], .int .i64 s] w fun e w' => e = .returned (.int .i64 v) ∧ Below w.heap.size w w' := h ▸ rankOf_any n s A cap es w hes hl
theorem ringFreeOk_is (n s : Int) (A : Option Addr) (cap : Nat) (es : List (Int × Int)) (w : World) (hes : EdgesIn w w.heap.size A es) (hl : es.length ≤ 1048576) (v : Bool) (h : freeB n es s = v) :
    Calls Try.prog 53 #[.agg #[.int .i64 n, .slice A es.length cap], .int .i64 s] w fun e w' => e = .returned (.bool v) ∧ Below w.heap.size w w' := h ▸ ringFreeOk_any n s A cap es w hes hl
theorem thereOf_is (n s : Int) (A : Option Addr) (cap : Nat) (es : List (Int × Int)) (w : World) (hes : EdgesIn w w.heap.size A es) (hl : es.length ≤ 1048576) (v : Int) (h : thereI n es s = v) :
    Calls Try.prog 86 #[.agg #[.int .i64 n, .slice A es.length cap], .int .i64 s] w fun e w' => e = .returned (.int .i64 v) ∧ Below w.heap.size w w' := h ▸ thereOf_any n s A cap es w hes hl
theorem specStateOk_is (n s : Int) (A : Option Addr) (cap : Nat) (es : List (Int × Int)) (w : World) (hes : EdgesIn w w.heap.size A es) (hl : es.length ≤ 1048576) (v : Bool) (h : stateOkB n es s = v) :
    Calls Try.prog 73 #[.agg #[.int .i64 n, .slice A es.length cap], .int .i64 s] w fun e w' => e = .returned (.bool v) ∧ Below w.heap.size w w' := h ▸ specStateOk_any n s A cap es w hes hl

theorem stateOkB_iff {n s : Int} {es : List (Int × Int)} : stateOkB n es s = true ↔ netOkB n es = true ∧ 0 ≤ s ∧ s < 2 ^ es.length := by
  simp [stateOkB]
theorem pow_cast (l : Nat) : (2 : Int) ^ l = ((2 ^ l : Nat) : Int) := by rw [Int.natCast_pow]; rfl
theorem state_nat {n s : Int} {es : List (Int × Int)} (h : stateOkB n es s = true) : ∃ m : Nat, s = m ∧ m < 2 ^ es.length ∧ m < 512 := by
  have h1 := stateOkB_iff.1 h
  have h2 := stateOkB_lt h
  rw [pow_cast] at h1
  exact ⟨s.toNat, by omega, by omega, by omega⟩
theorem state_of {n : Int} {es : List (Int × Int)} {m : Nat} (hn : netOkB n es = true) (hm : m < 2 ^ es.length) : stateOkB n es m = true := by
  refine stateOkB_iff.2 ⟨hn, by omega, ?_⟩
  rw [pow_cast]; omega
theorem pieces_pos {n s : Int} {es : List (Int × Int)} (h : stateOkB n es s = true) : 1 ≤ piecesB n es s := by
  have h1 := (netOkB_iff.1 (stateOkB_net h)).1
  exact pcs_pos (endsOf_ok (stateOkB_net h)) (by omega)
theorem card_le (T : Nat → Bool) : ∀ m, card T m ≤ m
  | 0 => Nat.le_refl _
  | m + 1 => by have := card_le T m; simp only [card]; split <;> omega
theorem card_ge (T : Nat → Bool) (l : Nat) : ∀ m, l ≤ m → (∀ i, l ≤ i → i < m → T i = false) → card T m = card T l
  | 0, hm, _ => by obtain rfl : l = 0 := by omega
                   rfl
  | m + 1, hm, h => by
    by_cases e : l = m + 1
    · subst e; rfl
    · rw [card, card_ge T l m (by omega) (fun i h1 h2 => h i h1 (by omega)), h m (by omega) (by omega)]; simp
theorem pop_card9 (m : Nat) (hm : m < 512) : pop m = card (fun i => m.testBit i) 9 := by
  revert m; decide +kernel
theorem pop_card {m l : Nat} (hm : m < 2 ^ l) (hl : l ≤ 9) : pop m = card (fun i => m.testBit i) l := by
  have h1 : (2 : Nat) ^ l ≤ 2 ^ 9 := Nat.pow_le_pow_right (by omega) hl
  rw [pop_card9 m (by omega)]
  refine card_ge _ l 9 hl fun i h2 _ => Nat.testBit_lt_two_pow (Nat.lt_of_lt_of_le hm (Nat.pow_le_pow_right (by omega) h2))
theorem there_card {n s : Int} {es : List (Int × Int)} (h : stateOkB n es s = true) : thereI n es s = (card (bits s) es.length : Nat) := by
  obtain ⟨m, rfl, hm, _⟩ := state_nat h
  have h9 := (netOkB_iff.1 (stateOkB_net h)).2.1
  simp [thereI, h]
  rw [pop_card hm h9]; rfl
theorem there_lt {n s : Int} {es : List (Int × Int)} (h : stateOkB n es s = true) : 0 ≤ thereI n es s ∧ thereI n es s ≤ 9 := by
  have h9 := (netOkB_iff.1 (stateOkB_net h)).2.1
  have := card_le (bits s) es.length
  rw [there_card h]; omega
theorem pieces_there {n s : Int} {es : List (Int × Int)} (h : stateOkB n es s = true) : n - thereI n es s ≤ (piecesB n es s : Nat) := by
  have h1 := (netOkB_iff.1 (stateOkB_net h)).1
  have h2 := pcs_card (endsOf_ok (stateOkB_net h)) (bits s) es.length (Nat.le_refl _)
  have h3 : cnt (rep (endsOf es) (bits s) es.length) n.toNat = piecesB n es s := rfl
  rw [there_card h]; omega
theorem state_zero {n : Int} {es : List (Int × Int)} (h : netOkB n es = true) : stateOkB n es 0 = true := by
  have := state_of (m := 0) h (Nat.pow_pos (by omega)); simpa using this
theorem pieces_zero {n : Int} {es : List (Int × Int)} (h : netOkB n es = true) : piecesI n es 0 = n := by
  have h1 := (netOkB_iff.1 h).1
  have h2 : piecesB n es 0 = n.toNat := pcs_none fun i _ => by simp [bits]
  rw [piecesI, state_zero h, if_pos rfl, h2]; omega
theorem or_bit (m k : Nat) (hm : m < 512) (hk : k < 9) : Go.bits BinOp.or IntKind.i64 (m : Int) (wrap64 (2 ^ k)) = ((m ||| 2 ^ k : Nat) : Int) := by
  revert m; revert k; decide +kernel
theorem or_state {n s : Int} {es : List (Int × Int)} {k : Nat} (h : stateOkB n es s = true) (hk : k < es.length) : Go.bits BinOp.or IntKind.i64 s (wrap64 (2 ^ k)) = ((s.toNat ||| 2 ^ k : Nat) : Int) := by
  obtain ⟨m, rfl, _, hm⟩ := state_nat h
  have h9 := (netOkB_iff.1 (stateOkB_net h)).2.1
  exact or_bit m k hm (by omega)
theorem more_lt {m l k : Nat} (hm : m < 2 ^ l) (hk : k < l) : m ||| 2 ^ k < 2 ^ l := Nat.or_lt_two_pow hm (Nat.pow_lt_pow_right (by omega) hk)
theorem pieces_more {n s : Int} {es : List (Int × Int)} {k : Nat} (h : stateOkB n es s = true) (hk : k < es.length) :
    piecesI n es ((s.toNat ||| 2 ^ k : Nat) : Int) = (piecesB n es s : Nat) ∨ piecesI n es ((s.toNat ||| 2 ^ k : Nat) : Int) = (piecesB n es s : Nat) - 1 := by
  have hn := stateOkB_net h
  obtain ⟨m, rfl, hm, _⟩ := state_nat h
  simp only [Int.toNat_natCast]
  have h1 := state_of hn (more_lt hm hk)
  rw [(piecesI_lt h1).1]
  have h2 := pcs_more (T := bits m) (T' := bits ((m ||| 2 ^ k : Nat) : Int)) (endsOf_ok hn) hk (by
    intro i _
    simp only [bits, Int.toNat_natCast, Nat.testBit_or, Nat.testBit_two_pow, Bool.or_eq_true, decide_eq_true_eq]
    constructor
    · rintro (h | h)
      · exact .inl h
      · exact .inr h.symm
    · rintro (h | h)
      · exact .inl h
      · exact .inr h.symm)
  have h3 : pcs (endsOf es) (bits m) es.length n.toNat = piecesB n es m := rfl
  have h4 : pcs (endsOf es) (bits ((m ||| 2 ^ k : Nat) : Int)) es.length n.toNat = piecesB n es ((m ||| 2 ^ k : Nat) : Int) := rfl
  split at h2 <;> omega

theorem joined_iff {n s : Int} {es : List (Int × Int)} {x y : Int} : joinedB n es s x y = true ↔ stateOkB n es s = true ∧ (1 ≤ x ∧ x ≤ n) ∧ (1 ≤ y ∧ y ≤ n) ∧ rep (endsOf es) (bits s) es.length x.toNat = rep (endsOf es) (bits s) es.length y.toNat := by
  simp [joinedB]
theorem joined_swap (n s : Int) (es : List (Int × Int)) (x y : Int) : joinedB n es s y x = joinedB n es s x y := by
  rw [Bool.eq_iff_iff, joined_iff, joined_iff]
  constructor
  · rintro ⟨h1, h2, h3, h4⟩; exact ⟨h1, h3, h2, h4.symm⟩
  · rintro ⟨h1, h2, h3, h4⟩; exact ⟨h1, h3, h2, h4.symm⟩
theorem joined_self {n s : Int} {es : List (Int × Int)} {x : Int} (h : stateOkB n es s = true) (h1 : 1 ≤ x) (h2 : x ≤ n) : joinedB n es s x x = true := joined_iff.2 ⟨h, ⟨h1, h2⟩, ⟨h1, h2⟩, rfl⟩
theorem joined_on {n s : Int} {es : List (Int × Int)} {x y : Int} (h : joinedB n es s x y = true) (z : Int) : joinedB n es s y z = joinedB n es s x z := by
  have h := joined_iff.1 h
  rw [Bool.eq_iff_iff, joined_iff, joined_iff]
  constructor
  · rintro ⟨h1, h2, h3, h4⟩; exact ⟨h1, h.2.1, h3, h.2.2.2.trans h4⟩
  · rintro ⟨h1, h2, h3, h4⟩; exact ⟨h1, h.2.2.1, h3, h.2.2.2.symm.trans h4⟩
theorem joined_edge {n s : Int} {es : List (Int × Int)} {k : Nat} (h : stateOkB n es s = true) (hk : k < es.length) (hb : bits s k = true) : joinedB n es s es[k].1 es[k].2 = true := by
  have hn := stateOkB_net h
  obtain ⟨a, b, he, hE, ha1, hb1, ha7, hb7, haN, hbN⟩ := fits_ends hn hk
  have h1 := (rep_ok (endsOf_ok hn) (bits s) es.length (Nat.le_refl _)).joins k hk hb
  rw [hE] at h1
  rw [he]
  have := (netOkB_iff.1 hn).1
  exact joined_iff.2 ⟨h, ⟨by simp; omega, by simp; omega⟩, ⟨by simp; omega, by simp; omega⟩, by simpa using h1⟩
theorem bit_val (m k : Nat) : ((m : Int) / 2 ^ k).tmod 2 = if bits m k = true then 1 else 0 := by
  have h := bit_of m k
  rw [tmod_of]
  simp only [bits, Int.toNat_natCast, h, decide_eq_true_eq]
  split <;> omega

def allJ (n : Int) (es : List (Int × Int)) (s : Int) : Nat → Bool
  | 0 => true
  | k + 1 => allJ n es s k && joinedB n es s 1 ((k + 1 : Nat) : Int)
theorem allJ_iff (n : Int) (es : List (Int × Int)) (s : Int) : ∀ k, allJ n es s k = true ↔ ∀ x : Nat, 1 ≤ x → x ≤ k → joinedB n es s 1 (x : Int) = true
  | 0 => by simp [allJ]; intro x h1 h2; omega
  | k + 1 => by
    rw [allJ, Bool.and_eq_true, allJ_iff n es s k]
    constructor
    · rintro ⟨h1, h2⟩ x hx hx'
      by_cases e : x = k + 1
      · subst e; exact h2
      · exact h1 x hx (by omega)
    · intro h
      exact ⟨fun x h1 h2 => h x h1 (by omega), h (k + 1) (by omega) (by omega)⟩
theorem whole_all {n s : Int} {es : List (Int × Int)} (h : stateOkB n es s = true) : allJ n es s n.toNat = wholeB n es s := by
  have hn := stateOkB_net h
  have hn6 := (netOkB_iff.1 hn).1
  rw [Bool.eq_iff_iff, allJ_iff]
  have h1 := pcs_whole (E := endsOf es) (T := bits s) (m := es.length) (n := n.toNat) (endsOf_ok hn) (by omega)
  have h2 : pcs (endsOf es) (bits s) es.length n.toNat = piecesB n es s := rfl
  rw [h2] at h1
  have h3 : wholeB n es s = true ↔ piecesB n es s = 1 := by unfold wholeB; rw [(piecesI_lt h).1]; simp; omega
  rw [h3, h1]
  constructor
  · intro h4 x hx hx'
    have := (joined_iff.1 (h4 x hx hx')).2.2.2
    simpa using this
  · intro h4 x hx hx'
    exact joined_iff.2 ⟨h, ⟨by omega, by omega⟩, ⟨by omega, by omega⟩, by simpa using h4 x hx hx'⟩
theorem whole_there {n s : Int} {es : List (Int × Int)} (h : stateOkB n es s = true) (hw : wholeB n es s = true) : n - 1 ≤ thereI n es s := by
  have h1 := pieces_there h
  have h2 : piecesB n es s = 1 := by unfold wholeB at hw; rw [(piecesI_lt h).1] at hw; simp at hw; omega
  omega
theorem whole_not {n s : Int} {es : List (Int × Int)} (h : stateOkB n es s = false) : wholeB n es s = false := by simp [wholeB, piecesI, h]
end Go.Proofs.Ytdacfeebidhgnaa

/- What the law on rings asks, of a net and a state. -/
namespace Go.Proofs.Ytdacfeebidhgnaa
open Go.RowKit
set_option maxRecDepth 100000

theorem sub_bit9 : ∀ k, k < 9 → ∀ m, m < 512 → Nat.testBit m k = true → 2 ^ k ≤ m ∧ ∀ i, i < 9 → Nat.testBit (m - 2 ^ k) i = (Nat.testBit m i && decide (i ≠ k)) := by decide +kernel
theorem sub_bit {m k : Nat} (hm : m < 512) (hk : k < 9) (hb : bits m k = true) : 2 ^ k ≤ m ∧ ∀ i, bits ((m - 2 ^ k : Nat) : Int) i = (bits m i && decide (i ≠ k)) := by
  have h := sub_bit9 k hk m hm (by simpa [bits] using hb)
  refine ⟨h.1, fun i => ?_⟩
  simp only [bits, Int.toNat_natCast]
  by_cases hi : i < 9
  · exact h.2 i hi
  · have h2 : (2 : Nat) ^ 9 ≤ 2 ^ i := Nat.pow_le_pow_right (by omega) (by omega)
    have h3 : m < 2 ^ i := by omega
    rw [Nat.testBit_lt_two_pow h3, Nat.testBit_lt_two_pow (Nat.lt_of_le_of_lt (Nat.sub_le _ _) h3)]; rfl
theorem free_iff {n s : Int} {es : List (Int × Int)} (h : stateOkB n es s = true) : freeB n es s = true ↔ pcs (endsOf es) (bits s) es.length n.toNat + card (bits s) es.length = n.toNat := by
  have h1 := (netOkB_iff.1 (stateOkB_net h)).1
  have h2 : piecesB n es s = pcs (endsOf es) (bits s) es.length n.toNat := rfl
  have h3 := pcs_le (endsOf es) (bits s) es.length n.toNat
  simp only [freeB, h, Bool.true_and, decide_eq_true_eq, rankI_of h, there_card h, h2]
  omega
theorem less_ok {n : Int} {es : List (Int × Int)} {m k : Nat} (h : stateOkB n es m = true) (hk : k < es.length) (hb : bits m k = true) : 2 ^ k ≤ m ∧ stateOkB n es ((m - 2 ^ k : Nat) : Int) = true ∧ ∀ i, bits ((m - 2 ^ k : Nat) : Int) i = (bits m i && decide (i ≠ k)) := by
  have hn := stateOkB_net h
  obtain ⟨m', e, hm, hm5⟩ := state_nat h
  obtain rfl : m = m' := by omega
  have h9 := (netOkB_iff.1 hn).2.1
  have h1 := sub_bit hm5 (show k < 9 by omega) hb
  exact ⟨h1.1, state_of hn (Nat.lt_of_le_of_lt (Nat.sub_le _ _) hm), h1.2⟩
theorem free_sub {n : Int} {es : List (Int × Int)} {m k : Nat} (h : stateOkB n es m = true) (hk : k < es.length) (hb : bits m k = true) (hf : freeB n es m = true) : freeB n es ((m - 2 ^ k : Nat) : Int) = true := by
  have h1 := less_ok h hk hb
  refine (free_iff h1.2.1).2 (free_less (endsOf_ok (stateOkB_net h)) hk hb (fun i => ?_) ((free_iff h).1 hf)).1
  rw [h1.2.2 i]; simp
theorem free_zero {n : Int} {es : List (Int × Int)} (h : netOkB n es = true) : freeB n es 0 = true := by
  refine (free_iff (state_zero h)).2 ?_
  have hb : ∀ i, bits 0 i = false := fun i => by simp [bits]
  rw [pcs_none fun i _ => hb i, card_ge (bits 0) 0 es.length (by omega) (fun i _ _ => hb i)]; rfl
def eachJ (n : Int) (es : List (Int × Int)) (m : Nat) : Nat → Bool
  | 0 => true
  | k + 1 => eachJ n es m k && (if bits m k = true then decide (piecesI n es ((m - 2 ^ k : Nat) : Int) = piecesI n es m + 1) else true)
theorem eachJ_iff (n : Int) (es : List (Int × Int)) (m : Nat) : ∀ k, eachJ n es m k = true ↔ ∀ j, j < k → bits m j = true → piecesI n es ((m - 2 ^ j : Nat) : Int) = piecesI n es m + 1
  | 0 => by simp [eachJ]
  | k + 1 => by
    rw [eachJ, Bool.and_eq_true, eachJ_iff n es m k]
    constructor
    · rintro ⟨h1, h2⟩ j hj hb
      by_cases e : j = k
      · subst e; rw [if_pos hb] at h2; simpa using h2
      · exact h1 j (by omega) hb
    · intro h
      refine ⟨fun j hj hb => h j (by omega) hb, ?_⟩
      split
      · rename_i hb; simpa using h k (by omega) hb
      · rfl
theorem free_each {n : Int} {es : List (Int × Int)} {m : Nat} (h : stateOkB n es m = true) : eachJ n es m es.length = freeB n es m := by
  have hE := endsOf_ok (stateOkB_net h)
  rw [Bool.eq_iff_iff, eachJ_iff, free_iff h]
  have hp : ∀ k, k < es.length → bits m k = true → (piecesI n es ((m - 2 ^ k : Nat) : Int) = piecesI n es m + 1 ↔ pcs (endsOf es) (fun i => bits m i && decide (i ≠ k)) es.length n.toNat = pcs (endsOf es) (bits m) es.length n.toNat + 1) := by
    intro k hk hb
    have h1 := less_ok h hk hb
    have h2 : piecesB n es ((m - 2 ^ k : Nat) : Int) = pcs (endsOf es) (fun i => bits m i && decide (i ≠ k)) es.length n.toNat := pcs_ext hE fun i _ => h1.2.2 i
    have h3 : piecesB n es m = pcs (endsOf es) (bits m) es.length n.toNat := rfl
    rw [(piecesI_lt h1.2.1).1, (piecesI_lt h).1, h2, h3]
    omega
  constructor
  · intro hj
    exact free_of hE fun k hk hb => (hp k hk hb).1 (hj k hk hb)
  · intro hf k hk hb
    exact (hp k hk hb).2 (free_less hE hk hb (fun i => by simp) hf).2
theorem free_not {n s : Int} {es : List (Int × Int)} (h : stateOkB n es s = false) : freeB n es s = false := by simp [freeB, h]
theorem sub_wrap (m k : Nat) (hm : m < 512) (hk : k < 9) (h : 2 ^ k ≤ m) : IntKind.i64.wrap ((m : Int) - wrap64 (2 ^ k)) = ((m - 2 ^ k : Nat) : Int) := by
  have h1 : wrap64 (2 ^ k) = (2 : Int) ^ k := by
    have : k = 0 ∨ k = 1 ∨ k = 2 ∨ k = 3 ∨ k = 4 ∨ k = 5 ∨ k = 6 ∨ k = 7 ∨ k = 8 := by omega
    rcases this with rfl | rfl | rfl | rfl | rfl | rfl | rfl | rfl | rfl <;> decide +kernel
  rw [h1, pow_cast, ← Int.natCast_sub h]
  have := Nat.sub_le m (2 ^ k)
  exact IntWalk.i64_in _ (by generalize m - 2 ^ k = d at *; omega)
end Go.Proofs.Ytdacfeebidhgnaa

/- Plain facts on least states of what goes on working: paths and cuts. -/
namespace Go.Proofs.Ytdacfeebidhgnaa
set_option maxRecDepth 100000

theorem sub_iff {s t : Nat} : s &&& t = s ↔ ∀ i, s.testBit i = true → t.testBit i = true := by
  constructor
  · intro h i hi
    have : (s &&& t).testBit i = true := by rw [h]; exact hi
    rw [Nat.testBit_and, Bool.and_eq_true] at this
    exact this.2
  · intro h
    apply Nat.eq_of_testBit_eq
    intro i
    rw [Nat.testBit_and]
    cases hs : s.testBit i with
    | false => rfl
    | true => rw [h i hs]; rfl
theorem disj_iff {s t : Nat} : s &&& t = 0 ↔ ∀ i, s.testBit i = true → t.testBit i = false := by
  constructor
  · intro h i hi
    have : (s &&& t).testBit i = false := by rw [h]; exact Nat.zero_testBit i
    rw [Nat.testBit_and, hi, Bool.true_and] at this
    exact this
  · intro h
    apply Nat.eq_of_testBit_eq
    intro i
    rw [Nat.testBit_and, Nat.zero_testBit]
    cases hs : s.testBit i with
    | false => rfl
    | true => rw [h i hs]; rfl
theorem sub_trans {s t u : Nat} (h : s &&& t = s) (k : t &&& u = t) : s &&& u = s := sub_iff.2 fun i hi => sub_iff.1 k i (sub_iff.1 h i hi)
theorem sub_anti {s t : Nat} (h : s &&& t = s) (k : t &&& s = t) : s = t := by rw [← h, Nat.and_comm, k]
theorem high_bit {s l : Nat} (h : s < 2 ^ l) {i : Nat} (hi : s.testBit i = true) : i < l := by
  rcases Nat.lt_or_ge i l with h1 | h1
  · exact h1
  · rw [Nat.testBit_lt_two_pow (Nat.lt_of_lt_of_le h (Nat.pow_le_pow_right (by omega) h1))] at hi; cases hi
/-- What is left of all. -/
def rest (l s : Nat) : Nat := 2 ^ l - 1 - s
theorem rest_bit {l s : Nat} (h : s < 2 ^ l) (i : Nat) : (rest l s).testBit i = (decide (i < l) && !s.testBit i) := by
  unfold rest
  rw [show 2 ^ l - 1 - s = 2 ^ l - (s + 1) by omega]
  exact Nat.testBit_two_pow_sub_succ h i
theorem rest_lt (l s : Nat) : rest l s < 2 ^ l := by
  have := Nat.one_le_two_pow (n := l)
  unfold rest; omega
theorem rest_rest {l s : Nat} (h : s < 2 ^ l) : rest l (rest l s) = s := by unfold rest; omega
theorem rest_sub {l s t : Nat} (hs : s < 2 ^ l) (ht : t < 2 ^ l) (h : s &&& t = s) : rest l t &&& rest l s = rest l t := by
  refine sub_iff.2 fun i hi => ?_
  rw [rest_bit ht, Bool.and_eq_true] at hi
  rw [rest_bit hs, hi.1, Bool.true_and]
  cases hb : s.testBit i with
  | false => rfl
  | true => have := sub_iff.1 h i hb; simp [this] at hi
theorem rest_disj {l s t : Nat} (hs : s < 2 ^ l) (ht : t < 2 ^ l) : s &&& t = 0 ↔ s &&& rest l t = s := by
  rw [disj_iff, sub_iff]
  constructor
  · intro h i hi; rw [rest_bit ht, h i hi]; simp [high_bit hs hi]
  · intro h i hi; have := h i hi; rw [rest_bit ht, Bool.and_eq_true] at this; simpa using this.2

/-- What goes on working with more. -/
def UpS (l : Nat) (J : Nat → Bool) : Prop := ∀ s t, s < 2 ^ l → t < 2 ^ l → s &&& t = s → J s = true → J t = true
def dual (l : Nat) (J : Nat → Bool) (s : Nat) : Bool := !J (rest l s)
theorem UpS.dual {l : Nat} {J : Nat → Bool} (h : UpS l J) : UpS l (dual l J) := fun s t hs ht hst hJ => by
  unfold Go.Proofs.Ytdacfeebidhgnaa.dual at hJ ⊢
  cases hc : J (rest l t) with
  | false => rfl
  | true => rw [h _ _ (rest_lt l t) (rest_lt l s) (rest_sub hs ht hst) hc] at hJ; cases hJ
theorem dual_dual {l : Nat} {J : Nat → Bool} {s : Nat} (h : s < 2 ^ l) : dual l (dual l J) s = J s := by unfold dual; rw [rest_rest h, Bool.not_not]

/-- Least: it works, but not without any one of it. -/
def leastB (l : Nat) (J : Nat → Bool) (s : Nat) : Bool := J s && (List.range l).all fun k => !s.testBit k || !J (s - 2 ^ k)
theorem least_iff {l : Nat} {J : Nat → Bool} {s : Nat} : leastB l J s = true ↔ J s = true ∧ ∀ k, k < l → s.testBit k = true → J (s - 2 ^ k) = false := by
  unfold leastB
  rw [Bool.and_eq_true, List.all_eq_true]
  refine and_congr_right fun _ => ⟨fun h k hk hb => ?_, fun h k hk => ?_⟩
  · have := h k (by simpa using hk); simpa [hb] using this
  · cases hb : s.testBit k with
    | false => rfl
    | true => simp [h k (by simpa using hk) hb]
theorem less_bits {l s k : Nat} (hl : l ≤ 9) (hs : s < 2 ^ l) (hb : s.testBit k = true) : 2 ^ k ≤ s ∧ ∀ i, (s - 2 ^ k).testBit i = (s.testBit i && decide (i ≠ k)) := by
  have hk : k < l := high_bit hs hb
  have h9 : s < 512 := Nat.lt_of_lt_of_le hs (by have := Nat.pow_le_pow_right (n := 2) (by omega) hl; omega)
  have h := sub_bit9 k (by omega) s h9 hb
  refine ⟨h.1, fun i => ?_⟩
  by_cases hi : i < 9
  · exact h.2 i hi
  · have e1 : s.testBit i = false := Nat.testBit_lt_two_pow (Nat.lt_of_lt_of_le h9 (by have := Nat.pow_le_pow_right (n := 2) (by omega) (show 9 ≤ i by omega); omega))
    have e2 : (s - 2 ^ k).testBit i = false := Nat.testBit_lt_two_pow (Nat.lt_of_lt_of_le (Nat.lt_of_le_of_lt (Nat.sub_le _ _) h9) (by have := Nat.pow_le_pow_right (n := 2) (by omega) (show 9 ≤ i by omega); omega))
    rw [e1, e2]; rfl
theorem less_sub {l s k : Nat} (hl : l ≤ 9) (hs : s < 2 ^ l) (hb : s.testBit k = true) : (s - 2 ^ k) &&& s = s - 2 ^ k := by
  refine sub_iff.2 fun i hi => ?_
  rw [(less_bits hl hs hb).2 i, Bool.and_eq_true] at hi
  exact hi.1
theorem least_exists {l : Nat} {J : Nat → Bool} (hl : l ≤ 9) : ∀ (f s : Nat), s < f → s < 2 ^ l → J s = true → ∃ p, p < 2 ^ l ∧ leastB l J p = true ∧ p &&& s = p
  | 0, s, hf, _, _ => by omega
  | f + 1, s, hf, hs, hJ => by
    by_cases h : leastB l J s = true
    · exact ⟨s, hs, h, Nat.and_self s⟩
    · have : ∃ k, k < l ∧ s.testBit k = true ∧ J (s - 2 ^ k) = true := Classical.byContradiction fun hn => h (least_iff.2 ⟨hJ, fun k hk hb => by
        cases hc : J (s - 2 ^ k) with
        | false => rfl
        | true => exact absurd ⟨k, hk, hb, hc⟩ hn⟩)
      obtain ⟨k, hk, hb, hc⟩ := this
      have h1 := (less_bits hl hs hb).1
      have h2 : 1 ≤ 2 ^ k := Nat.one_le_two_pow
      obtain ⟨p, hp, hlp, hps⟩ := least_exists hl f (s - 2 ^ k) (by omega) (by omega) hc
      exact ⟨p, hp, hlp, sub_trans hps (less_sub hl hs hb)⟩
/-- What works has a least one. -/
theorem least_in {l : Nat} {J : Nat → Bool} (hl : l ≤ 9) (hJ : UpS l J) {s : Nat} (hs : s < 2 ^ l) : J s = true ↔ ∃ p, p < 2 ^ l ∧ leastB l J p = true ∧ p &&& s = p :=
  ⟨fun h => least_exists hl (s + 1) s (by omega) hs h, fun ⟨p, hp, hlp, hps⟩ => hJ p s hp hs hps (least_iff.1 hlp).1⟩
/-- No least one has all of another one. -/
theorem least_anti {l : Nat} {J : Nat → Bool} (hl : l ≤ 9) (hJ : UpS l J) {p q : Nat} (hp : p < 2 ^ l) (hq : q < 2 ^ l) (h1 : leastB l J p = true) (h2 : leastB l J q = true) (h : p &&& q = p) : p = q := by
  refine sub_anti h (sub_iff.2 fun i hi => ?_)
  cases hb : p.testBit i with
  | true => rfl
  | false =>
    have h3 := (least_iff.1 h2).2 i (high_bit hq hi) hi
    have h4 : p &&& (q - 2 ^ i) = p := sub_iff.2 fun j hj => by
      rw [(less_bits hl hq hi).2 j, sub_iff.1 h j hj]
      have : j ≠ i := fun e => by rw [e, hb] at hj; cases hj
      simp [this]
    have h5 := hJ p (q - 2 ^ i) hp (Nat.lt_of_le_of_lt (Nat.sub_le _ _) hq) h4 (least_iff.1 h1).1
    rw [h3] at h5; cases h5
/-- Each least one has something in common with each least one of the dual. -/
theorem least_meets {l : Nat} {J : Nat → Bool} (hJ : UpS l J) {p c : Nat} (hp : p < 2 ^ l) (hc : c < 2 ^ l) (h1 : J p = true) (h2 : dual l J c = true) : p &&& c ≠ 0 := fun h => by
  have h3 := hJ p (rest l c) hp (rest_lt l c) ((rest_disj hp hc).1 h) h1
  unfold dual at h2; rw [h3] at h2; cases h2
/-- It works exactly if it has something in common with each least one of the dual. -/
theorem works_meets {l : Nat} {J : Nat → Bool} (hl : l ≤ 9) (hJ : UpS l J) {s : Nat} (hs : s < 2 ^ l) : J s = true ↔ ∀ c, c < 2 ^ l → leastB l (dual l J) c = true → c &&& s ≠ 0 := by
  constructor
  · intro h c hc hlc e
    rw [Nat.and_comm] at e
    exact least_meets hJ hs hc h (least_iff.1 hlc).1 e
  · intro h
    cases hj : J s with
    | true => rfl
    | false =>
      have hd : dual l J (rest l s) = true := by unfold dual; rw [rest_rest hs, hj]; rfl
      obtain ⟨c, hc, hlc, hcs⟩ := (least_in hl hJ.dual (rest_lt l s)).1 hd
      exact absurd ((rest_disj hc hs).2 hcs) (h c hc hlc)
/-- The least ones in ascending order. -/
def leastL (l : Nat) (J : Nat → Bool) : List Nat := (List.range (2 ^ l)).filter (leastB l J)
theorem mem_leastL {l : Nat} {J : Nat → Bool} {p : Nat} : p ∈ leastL l J ↔ p < 2 ^ l ∧ leastB l J p = true := by
  unfold leastL; rw [List.mem_filter, List.mem_range]
theorem leastL_sorted (l : Nat) (J : Nat → Bool) : (leastL l J).Pairwise (· < ·) := List.Pairwise.filter _ List.pairwise_lt_range
end Go.Proofs.Ytdacfeebidhgnaa

/- What the law on ranks asks, of a net and two states. -/
namespace Go.Proofs.Ytdacfeebidhgnaa
open Go.RowKit
set_option maxRecDepth 100000

theorem or_i64s (a b : Nat) (ha : a < 512) (hb : b < 512) : Go.bits .or .i64 (a : Int) (b : Int) = ((a ||| b : Nat) : Int) := by
  have hx : a ||| b < 2 ^ 9 := Nat.or_lt_two_pow (by omega) (by omega)
  have h1 : (BitVec.ofInt 64 (a : Int)).toNat = a := by
    rw [BitVec.ofInt_natCast, BitVec.toNat_ofNat]; exact Nat.mod_eq_of_lt (by omega)
  have h2 : (BitVec.ofInt 64 (b : Int)).toNat = b := by
    rw [BitVec.ofInt_natCast, BitVec.toNat_ofNat]; exact Nat.mod_eq_of_lt (by omega)
  show IntKind.i64.wrap ((BitVec.ofInt 64 (a : Int) ||| BitVec.ofInt 64 (b : Int)).toNat : Int) = _
  rw [BitVec.toNat_or, h1, h2]
  exact IntWalk.i64_in _ (by omega)
theorem and_i64s (a b : Nat) (ha : a < 512) (hb : b < 512) : Go.bits .and .i64 (a : Int) (b : Int) = ((a &&& b : Nat) : Int) := by
  have hx : a &&& b < 2 ^ 9 := Nat.and_lt_two_pow _ (by omega)
  have h1 : (BitVec.ofInt 64 (a : Int)).toNat = a := by
    rw [BitVec.ofInt_natCast, BitVec.toNat_ofNat]; exact Nat.mod_eq_of_lt (by omega)
  have h2 : (BitVec.ofInt 64 (b : Int)).toNat = b := by
    rw [BitVec.ofInt_natCast, BitVec.toNat_ofNat]; exact Nat.mod_eq_of_lt (by omega)
  show IntKind.i64.wrap ((BitVec.ofInt 64 (a : Int) &&& BitVec.ofInt 64 (b : Int)).toNat : Int) = _
  rw [BitVec.toNat_and, h1, h2]
  exact IntWalk.i64_in _ (by omega)
theorem rank_there {n s : Int} {es : List (Int × Int)} (h : stateOkB n es s = true) : rankI n es s ≤ thereI n es s := by
  have := pieces_there h
  rw [rankI_of h]; omega
theorem rank_bounds {n s : Int} {es : List (Int × Int)} (h : stateOkB n es s = true) : 0 ≤ rankI n es s ∧ rankI n es s ≤ 6 := by
  have h1 := (netOkB_iff.1 (stateOkB_net h)).1
  have h2 : piecesB n es s ≤ n.toNat := pcs_le _ _ _ _
  rw [rankI_of h]; omega
theorem two_ok {n : Int} {es : List (Int × Int)} {m o : Nat} (h : stateOkB n es m = true) (h' : stateOkB n es o = true) :
    stateOkB n es ((m ||| o : Nat) : Int) = true ∧ stateOkB n es ((m &&& o : Nat) : Int) = true := by
  obtain ⟨m', e, hm, _⟩ := state_nat h
  obtain ⟨o', e', ho, _⟩ := state_nat h'
  obtain rfl : m = m' := by omega
  obtain rfl : o = o' := by omega
  exact ⟨state_of (stateOkB_net h) (Nat.or_lt_two_pow hm ho), state_of (stateOkB_net h) (Nat.and_lt_two_pow _ ho)⟩
theorem rank_two {n : Int} {es : List (Int × Int)} {m o : Nat} (h : stateOkB n es m = true) (h' : stateOkB n es o = true) :
    rankI n es ((m ||| o : Nat) : Int) + rankI n es ((m &&& o : Nat) : Int) ≤ rankI n es m + rankI n es o ∧
    rankI n es m ≤ rankI n es ((m ||| o : Nat) : Int) ∧ rankI n es o ≤ rankI n es ((m ||| o : Nat) : Int) ∧
    rankI n es ((m &&& o : Nat) : Int) ≤ rankI n es m ∧ rankI n es ((m &&& o : Nat) : Int) ≤ rankI n es o := by
  have hE := endsOf_ok (stateOkB_net h)
  have h2 := two_ok h h'
  rw [rankI_of h, rankI_of h', rankI_of h2.1, rankI_of h2.2]
  have e1 : piecesB n es ((m ||| o : Nat) : Int) = pcs (endsOf es) (fun i => bits m i || bits o i) es.length n.toNat := pcs_ext hE fun i _ => by simp [bits, Nat.testBit_or]
  have e2 : piecesB n es ((m &&& o : Nat) : Int) = pcs (endsOf es) (fun i => bits m i && bits o i) es.length n.toNat := pcs_ext hE fun i _ => by simp [bits, Nat.testBit_and]
  have e3 : piecesB n es m = pcs (endsOf es) (bits m) es.length n.toNat := rfl
  have e4 : piecesB n es o = pcs (endsOf es) (bits o) es.length n.toNat := rfl
  have k1 := pcs_both (A := bits m) (B := bits o) hE
  have k2 := pcs_mono (T := bits m) (T' := fun i => bits m i || bits o i) hE fun i _ hi => by simp [hi]
  have k3 := pcs_mono (T := bits o) (T' := fun i => bits m i || bits o i) hE fun i _ hi => by simp [hi]
  have k4 := pcs_mono (T := fun i => bits m i && bits o i) (T' := bits m) hE fun i _ hi => by simp at hi; exact hi.1
  have k5 := pcs_mono (T := fun i => bits m i && bits o i) (T' := bits o) hE fun i _ hi => by simp at hi; exact hi.2
  rw [e1, e2, e3, e4]
  omega

theorem pow_wrap (l : Nat) (h : l ≤ 9) : wrap64 (2 ^ l) = ((2 ^ l : Nat) : Int) ∧ 1 ≤ 2 ^ l ∧ 2 ^ l ≤ 512 := by
  have : l = 0 ∨ l = 1 ∨ l = 2 ∨ l = 3 ∨ l = 4 ∨ l = 5 ∨ l = 6 ∨ l = 7 ∨ l = 8 ∨ l = 9 := by omega
  rcases this with rfl | rfl | rfl | rfl | rfl | rfl | rfl | rfl | rfl | rfl <;> decide +kernel
theorem tmod_nat (o P : Nat) : (o : Int).tmod (P : Int) = ((o % P : Nat) : Int) := by
  rw [Int.tmod_eq_emod_of_nonneg (Int.natCast_nonneg _)]; rfl
end Go.Proofs.Ytdacfeebidhgnaa

/- Plain facts on trees of a net: what a tree is, the ring with a further edge, and the cut without one. -/
namespace Go.Proofs.Ytdacfeebidhgnaa
open Go.RowKit
set_option maxRecDepth 100000

/-- The state of just those of the first edges of which something is true. -/
def setOf (p : Nat → Bool) : Nat → Nat
  | 0 => 0
  | k + 1 => if p k = true then setOf p k ||| 2 ^ k else setOf p k
theorem setOf_lt (p : Nat → Bool) : ∀ k, setOf p k < 2 ^ k
  | 0 => by simp [setOf]
  | k + 1 => by
    have h := setOf_lt p k
    have h2 : (2 : Nat) ^ k < 2 ^ (k + 1) := Nat.pow_lt_pow_right (by omega) (by omega)
    unfold setOf
    split
    · exact Nat.or_lt_two_pow (by omega) h2
    · omega
theorem setOf_bit (p : Nat → Bool) (i : Nat) : ∀ k, (setOf p k).testBit i = (decide (i < k) && p i)
  | 0 => by simp [setOf]
  | k + 1 => by
    have h := setOf_bit p i k
    unfold setOf
    by_cases e : i = k
    · subst e
      have h0 : (setOf p i).testBit i = false := by rw [h]; simp
      split
      · rename_i hp
        rw [Nat.testBit_or, h0, Nat.testBit_two_pow, hp]; simp
      · rename_i hp
        rw [h0]; simp [hp]
    · have e2 : decide (i < k + 1) = decide (i < k) := by rw [decide_eq_decide]; omega
      rw [e2, ← h]
      split
      · rw [Nat.testBit_or, Nat.testBit_two_pow, decide_eq_false (by omega), Bool.or_false]
      · rfl
theorem setOf_congr {p q : Nat → Bool} {k : Nat} (h : ∀ i, i < k → p i = q i) : setOf p k = setOf q k := by
  apply Nat.eq_of_testBit_eq
  intro i
  rw [setOf_bit, setOf_bit]
  by_cases hi : i < k
  · rw [h i hi]
  · simp [hi]
theorem setOf_le (p : Nat → Bool) {k m : Nat} (h : k ≤ m) : setOf p k < 2 ^ m := Nat.lt_of_lt_of_le (setOf_lt p k) (Nat.pow_le_pow_right (by omega) h)

/-- A tree: whole, with one edge less than nodes. -/
def treeB (n : Int) (es : List (Int × Int)) (s : Int) : Bool := stateOkB n es s && (decide (thereI n es s = n - 1) && decide (piecesI n es s = 1))
theorem treeB_whole (n : Int) (es : List (Int × Int)) (s : Int) : (wholeB n es s && decide (thereI n es s = n - 1)) = treeB n es s := by
  unfold treeB wholeB
  cases h : stateOkB n es s with
  | true => rw [Bool.true_and, Bool.and_comm]
  | false =>
    have : piecesI n es s = -1 := by simp [piecesI, h]
    rw [this]; simp
theorem treeB_ok {n s : Int} {es : List (Int × Int)} (h : treeB n es s = true) : stateOkB n es s = true := by
  unfold treeB at h; rw [Bool.and_eq_true] at h; exact h.1
/-- A tree, as facts on pieces. -/
structure TreeP (E : Nat → Nat × Nat) (m n : Nat) (T : Nat → Bool) : Prop where
  ok : EndsOk E m n
  one : 1 ≤ n
  whole : pcs E T m n = 1
  free : pcs E T m n + card T m = n
theorem treeB_iff {n s : Int} {es : List (Int × Int)} : treeB n es s = true ↔ stateOkB n es s = true ∧ TreeP (endsOf es) es.length n.toNat (bits s) := by
  unfold treeB
  rw [Bool.and_eq_true]
  refine and_congr_right fun h => ?_
  have h1 := (netOkB_iff.1 (stateOkB_net h)).1
  have h2 : piecesB n es s = pcs (endsOf es) (bits s) es.length n.toNat := rfl
  rw [Bool.and_eq_true, decide_eq_true_eq, decide_eq_true_eq, there_card h, (piecesI_lt h).1, h2]
  constructor
  · rintro ⟨h3, h4⟩
    exact ⟨endsOf_ok (stateOkB_net h), by omega, by omega, by omega⟩
  · rintro ⟨-, -, h3, h4⟩
    exact ⟨by omega, by omega⟩
theorem tree_free {n s : Int} {es : List (Int × Int)} (h : stateOkB n es s = true) : treeB n es s = (wholeB n es s && freeB n es s) := by
  have h2 : piecesB n es s = pcs (endsOf es) (bits s) es.length n.toNat := rfl
  rw [Bool.eq_iff_iff, treeB_iff, Bool.and_eq_true, free_iff h]
  have h3 : wholeB n es s = true ↔ pcs (endsOf es) (bits s) es.length n.toNat = 1 := by unfold wholeB; rw [(piecesI_lt h).1, h2, decide_eq_true_eq]; omega
  rw [h3]
  have h1 := (netOkB_iff.1 (stateOkB_net h)).1
  constructor
  · rintro ⟨-, k⟩; exact ⟨k.whole, k.free⟩
  · rintro ⟨k1, k2⟩; exact ⟨h, endsOf_ok (stateOkB_net h), by omega, k1, k2⟩

section
variable {E : Nat → Nat × Nat} {m n : Nat} {T : Nat → Bool}
def moreT (T : Nat → Bool) (k i : Nat) : Bool := T i || decide (i = k)
def lessT (T : Nat → Bool) (k i : Nat) : Bool := T i && decide (i ≠ k)
/-- Both ends of an edge are joined. -/
def metB (E : Nat → Nat × Nat) (m : Nat) (T : Nat → Bool) (k : Nat) : Bool := decide (rep E T m (E k).1 = rep E T m (E k).2)
theorem more_pcs (hE : EndsOk E m n) (T : Nat → Bool) {k : Nat} (hk : k < m) : pcs E T m n = pcs E (moreT T k) m n + if metB E m T k = true then 0 else 1 := by
  have h := pcs_more (T := T) (T' := moreT T k) hE hk (fun i _ => by simp [moreT])
  unfold metB
  simpa using h
theorem less_more (T : Nat → Bool) {k : Nat} (hk : T k = true) : moreT (lessT T k) k = T := by
  funext i
  unfold moreT lessT
  by_cases e : i = k
  · subst e; simp [hk]
  · simp [e]
theorem less_pcs (hE : EndsOk E m n) {k : Nat} (hk : k < m) (hT : T k = true) : pcs E (lessT T k) m n = pcs E T m n + if metB E m (lessT T k) k = true then 0 else 1 := by
  have h := more_pcs hE (lessT T k) hk
  rwa [less_more T hT] at h
theorem met_whole (hE : EndsOk E m n) (hn : 1 ≤ n) (h : pcs E T m n = 1) {k : Nat} (hk : k < m) : metB E m T k = true := by
  have h1 := (pcs_whole hE hn).1 h
  have h2 := hE k hk
  unfold metB
  rw [decide_eq_true_eq, ← h1 _ h2.1.1 h2.1.2, ← h1 _ h2.2.1 h2.2.2]
theorem met_has (hE : EndsOk E m n) {k : Nat} (hk : k < m) (h : T k = true) : metB E m T k = true := by
  unfold metB
  rw [decide_eq_true_eq]
  exact (rep_ok hE T m (Nat.le_refl _)).joins k hk h
theorem met_mono (hE : EndsOk E m n) {T' : Nat → Bool} (h : ∀ i, T i = true → T' i = true) {k : Nat} (hm : metB E m T k = true) : metB E m T' k = true := by
  unfold metB at *
  rw [decide_eq_true_eq] at *
  exact (rep_ok hE T m (Nat.le_refl _)).mono (rep_ok hE T' m (Nat.le_refl _)) (Nat.le_refl _) (fun i _ hi => h i hi) hm
/-- Without an edge, a tree has two pieces. -/
theorem TreeP.less (h : TreeP E m n T) {k : Nat} (hk : k < m) (hT : T k = true) : pcs E (lessT T k) m n = 2 ∧ metB E m (lessT T k) k = false := by
  have h1 := (free_less (T' := lessT T k) h.ok hk hT (fun i => by simp [lessT]) h.free).2
  have h2 := less_pcs h.ok hk hT
  have h3 := h.whole
  refine ⟨by omega, ?_⟩
  cases hm : metB E m (lessT T k) k with
  | false => rfl
  | true => rw [hm, if_pos rfl] at h2; omega
/-- With a further edge, a tree is whole. -/
theorem TreeP.more (h : TreeP E m n T) (k : Nat) : pcs E (moreT T k) m n = 1 := by
  have h1 := pcs_mono (T := T) (T' := moreT T k) h.ok (fun i _ hi => by simp [moreT, hi])
  have h2 := pcs_pos (T := moreT T k) h.ok h.one
  have h3 := h.whole
  omega
/-- The ring with a further edge. -/
def ringB (E : Nat → Nat × Nat) (m : Nat) (T : Nat → Bool) (at' o : Nat) : Bool := moreT T at' o && metB E m (lessT (moreT T at') o) o
/-- The cut without an edge. -/
def cutB (E : Nat → Nat × Nat) (m : Nat) (T : Nat → Bool) (at' o : Nat) : Bool := !metB E m (lessT T at') o
theorem TreeP.ring_at (h : TreeP E m n T) {a : Nat} (ha : a < m) (hT : T a = false) : ringB E m T a a = true := by
  unfold ringB
  rw [Bool.and_eq_true]
  refine ⟨by simp [moreT], ?_⟩
  have e : lessT (moreT T a) a = T := by
    funext i
    unfold lessT moreT
    by_cases hi : i = a
    · subst hi; simp [hT]
    · simp [hi]
  rw [e]
  exact met_whole h.ok h.one h.whole ha
/-- Of the edges there, just those are in the ring without which, and with the further one, it is whole. -/
theorem TreeP.ring_pcs (h : TreeP E m n T) (a : Nat) {o : Nat} (ho : o < m) (hT : T o = true) : ringB E m T a o = decide (pcs E (lessT (moreT T a) o) m n = 1) := by
  have hmo : moreT T a o = true := by simp [moreT, hT]
  have h1 := less_pcs h.ok ho hmo
  rw [h.more a] at h1
  unfold ringB
  rw [hmo, Bool.true_and]
  cases hm : metB E m (lessT (moreT T a) o) o with
  | true => rw [hm, if_pos rfl] at h1; rw [h1]; rfl
  | false => rw [hm, if_neg (by simp)] at h1; rw [h1]; rfl
theorem TreeP.cut_pcs (h : TreeP E m n T) {a : Nat} (ha : a < m) (hT : T a = true) {o : Nat} (ho : o < m) : cutB E m T a o = decide (pcs E (moreT (lessT T a) o) m n = 1) := by
  have h1 := more_pcs h.ok (lessT T a) ho
  rw [(h.less ha hT).1] at h1
  unfold cutB
  cases hm : metB E m (lessT T a) o with
  | true => rw [hm, if_pos rfl] at h1; rw [show pcs E (moreT (lessT T a) o) m n = 2 by omega]; rfl
  | false => rw [hm, if_neg (by simp)] at h1; rw [show pcs E (moreT (lessT T a) o) m n = 1 by omega]; rfl
theorem TreeP.cut_at (h : TreeP E m n T) {a : Nat} (ha : a < m) (hT : T a = true) : cutB E m T a a = true := by
  unfold cutB; rw [(h.less ha hT).2]; rfl
theorem TreeP.cut_has (h : TreeP E m n T) {a o : Nat} (ho : o < m) (hT : T o = true) (hne : o ≠ a) : cutB E m T a o = false := by
  unfold cutB
  rw [met_has h.ok ho (by simp [lessT, hT, hne])]; rfl
/-- Rings and cuts meet in twos. -/
theorem TreeP.ring_cut (h : TreeP E m n T) {a o : Nat} (ha : a < m) (ho : o < m) (hTa : T a = true) (hTo : T o = false) : ringB E m T o a = cutB E m T a o := by
  rw [h.ring_pcs o ha hTa, h.cut_pcs ha hTa ho]
  have e : lessT (moreT T o) a = moreT (lessT T a) o := by
    funext i
    unfold lessT moreT
    by_cases hi : i = o
    · subst hi
      have : i ≠ a := fun e => by subst e; rw [hTa] at hTo; cases hTo
      simp [hTo, this]
    · simp [hi]
  rw [e]
theorem card_more {k : Nat} (hT : T k = false) (hk : k < m) : card (moreT T k) m = card T m + 1 := by
  refine card_less (T := moreT T k) (T' := T) (by simp [moreT]) (fun i => ?_) m hk
  unfold moreT
  by_cases e : i = k
  · subst e; simp [hT]
  · simp [e]
/-- The ring is no tree's part: its edges are not without a ring. -/
theorem TreeP.ring_not (h : TreeP E m n T) {a : Nat} (ha : a < m) (hTa : T a = false) : pcs E (fun i => decide (i < m) && ringB E m T a i) m n + card (fun i => decide (i < m) && ringB E m T a i) m ≠ n := by
  intro hf
  -- What of the tree stands in the ring, beside the edges from j on.
  have key : ∀ j, j ≤ m → metB E m (fun i => T i && (decide (j ≤ i) || ringB E m T a i)) a = true := by
    intro j
    induction j with
    | zero =>
      intro _
      have e : (fun i => T i && (decide (0 ≤ i) || ringB E m T a i)) = T := by funext i; simp
      rw [e]; exact met_whole h.ok h.one h.whole ha
    | succ j ih =>
      intro hj
      have h0 := ih (by omega)
      obtain ⟨S, hS⟩ : ∃ S : Nat → Bool, S = fun i => T i && (decide (j ≤ i) || ringB E m T a i) := ⟨_, rfl⟩
      rw [← hS] at h0
      by_cases hk : T j = true ∧ ringB E m T a j = false
      · have hSj : S j = true := by rw [hS]; simp [hk.1]
        have e : (fun i => T i && (decide (j + 1 ≤ i) || ringB E m T a i)) = lessT S j := by
          funext i
          rw [hS]
          unfold lessT
          by_cases hi : i = j
          · subst hi; simp [hk.2]
          · have : decide (j + 1 ≤ i) = decide (j ≤ i) := by rw [decide_eq_decide]; omega
            rw [this]; simp [hi]
        rw [e]
        cases hm : metB E m (lessT S j) a with
        | true => rfl
        | false =>
          exfalso
          have p1 := less_pcs h.ok (show j < m by omega) hSj
          have p2 := more_pcs h.ok (lessT S j) ha
          rw [hm, if_neg (by simp)] at p2
          have p3 := more_pcs h.ok S ha
          rw [h0, if_pos rfl] at p3
          have hja : j ≠ a := fun e => by subst e; rw [hTa] at hk; cases hk.1
          have e2 : moreT (lessT S j) a = lessT (moreT S a) j := by
            funext i
            unfold moreT lessT
            by_cases hi : i = a
            · subst hi; simp [Ne.symm hja]
            · simp [hi]
          have p4 := less_pcs (T := moreT S a) h.ok (show j < m by omega) (by simp [moreT, hSj])
          rw [← e2] at p4
          have hmet : metB E m (moreT (lessT S j) a) j = true := by
            cases hq : metB E m (moreT (lessT S j) a) j with
            | true => rfl
            | false =>
              rw [hq, if_neg (by simp)] at p4
              split at p1 <;> omega
          have hr : ringB E m T a j = true := by
            unfold ringB
            rw [show moreT T a j = true by simp [moreT, hk.1], Bool.true_and]
            refine met_mono h.ok (fun i hi => ?_) hmet
            rw [e2] at hi
            unfold lessT moreT at *
            rw [Bool.and_eq_true, Bool.or_eq_true] at *
            refine ⟨?_, hi.2⟩
            rcases hi.1 with hh | hh
            · left; rw [hS] at hh; simp at hh; exact hh.1
            · right; exact hh
          rw [hk.2] at hr; cases hr
      · have e : (fun i => T i && (decide (j + 1 ≤ i) || ringB E m T a i)) = S := by
          funext i
          rw [hS]
          by_cases hi : i = j
          · subst hi
            cases hTi : T i with
            | false => simp [hTi]
            | true =>
              have : ringB E m T a i = true := by
                cases hr : ringB E m T a i with
                | true => rfl
                | false => exact absurd ⟨hTi, hr⟩ hk
              simp [this, hTi]
          · have : decide (j + 1 ≤ i) = decide (j ≤ i) := by rw [decide_eq_decide]; omega
            rw [this]
        rw [e]; exact h0
  have hfin := key m (Nat.le_refl _)
  have hC : (fun i => decide (i < m) && ringB E m T a i) a = true := by simp [ha, h.ring_at ha hTa]
  obtain ⟨C, hCd⟩ : ∃ C : Nat → Bool, C = fun i => decide (i < m) && ringB E m T a i := ⟨_, rfl⟩
  rw [← hCd] at hf hC
  have q1 := (free_less (T' := lessT C a) h.ok ha hC (fun i => by simp [lessT]) hf).2
  have q2 := less_pcs h.ok ha hC
  have q3 : metB E m (lessT C a) a = true := by
    have h1 := (rep_ok h.ok (fun i => T i && (decide (m ≤ i) || ringB E m T a i)) m (Nat.le_refl _))
    have h2 := (rep_ok h.ok (lessT C a) m (Nat.le_refl _))
    unfold metB at hfin ⊢
    rw [decide_eq_true_eq] at hfin ⊢
    refine h1.mono h2 (Nat.le_refl _) (fun i hi ht => ?_) hfin
    have hne : i ≠ a := fun e => by subst e; simp [hTa] at ht
    have hni : ¬ m ≤ i := by omega
    simp only [decide_eq_false hni, Bool.false_or, Bool.and_eq_true] at ht
    simp [lessT, hCd, hi, ht.2, hne]
  rw [q3, if_pos rfl] at q2
  omega
end
end Go.Proofs.Ytdacfeebidhgnaa
