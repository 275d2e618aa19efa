/- What the laws on pieces ask, of a net and a state. -/
import Derived.Test.YtaplmlbpleilfaaSpec2
namespace Go.Proofs.Ytaplmlbpleilfaa
open Go.RowKit
set_option maxRecDepth 100000

theorem piecesIn_is (n s : Int) (A : Option Addr) (cap : Nat) (es : List (Int × Int)) (w : World) (hes : EdgesIn w w.heap.size A es) (hl : es.length ≤ 1048576) (v : Int) (h : piecesI n es s = v) :
    Calls Try.prog 83 #[.agg #[.int .i64 n, .slice A es.length cap], .int .i64 s] w fun e w' => e = .returned (.int .i64 v) ∧ Below w.heap.size w w' := h ▸ piecesIn_any n s A cap es w hes hl
theorem joinedOk_is (n s a b : Int) (A : Option Addr) (cap : Nat) (es : List (Int × Int)) (w : World) (hes : EdgesIn w w.heap.size A es) (hl : es.length ≤ 1048576) (v : Bool) (h : joinedB n es s a b = v) :
    Calls Try.prog 64 #[.agg #[.int .i64 n, .slice A es.length cap], .int .i64 s, .int .i64 a, .int .i64 b] w fun e w' => e = .returned (.bool v) ∧ Below w.heap.size w w' := h ▸ joinedOk_any n s a b A cap es w hes hl
theorem specJoinedOk_is (n s a b : Int) (A : Option Addr) (cap : Nat) (es : List (Int × Int)) (w : World) (hes : EdgesIn w w.heap.size A es) (hl : es.length ≤ 1048576) (v : Bool) (h : joinedB n es s a b = v) :
    Calls Try.prog 65 #[.agg #[.int .i64 n, .slice A es.length cap], .int .i64 s, .int .i64 a, .int .i64 b] w fun e w' => e = .returned (.bool v) ∧ Below w.heap.size w w' := h ▸ specJoinedOk_any n s a b A cap es w hes hl
theorem wholeOk_is (n s : Int) (A : Option Addr) (cap : Nat) (es : List (Int × Int)) (w : World) (hes : EdgesIn w w.heap.size A es) (hl : es.length ≤ 1048576) (v : Bool) (h : wholeB n es s = v) :
    Calls Try.prog 71 #[.agg #[.int .i64 n, .slice A es.length cap], .int .i64 s] w fun e w' => e = .returned (.bool v) ∧ Below w.heap.size w w' := h ▸ wholeOk_any n s A cap es w hes hl
theorem specStateOk_is (n s : Int) (A : Option Addr) (cap : Nat) (es : List (Int × Int)) (w : World) (hes : EdgesIn w w.heap.size A es) (hl : es.length ≤ 1048576) (v : Bool) (h : stateOkB n es s = v) :
    Calls Try.prog 81 #[.agg #[.int .i64 n, .slice A es.length cap], .int .i64 s] w fun e w' => e = .returned (.bool v) ∧ Below w.heap.size w w' := h ▸ specStateOk_any n s A cap es w hes hl

theorem stateOkB_iff {n s : Int} {es : List (Int × Int)} : stateOkB n es s = true ↔ netOkB n es = true ∧ 0 ≤ s ∧ s < 2 ^ es.length := by
  simp [stateOkB]
theorem pow_cast (l : Nat) : (2 : Int) ^ l = ((2 ^ l : Nat) : Int) := by rw [Int.natCast_pow]; rfl
theorem state_nat {n s : Int} {es : List (Int × Int)} (h : stateOkB n es s = true) : ∃ m : Nat, s = m ∧ m < 2 ^ es.length ∧ m < 512 := by
  have h1 := stateOkB_iff.1 h
  have h2 := stateOkB_lt h
  rw [pow_cast] at h1
  exact ⟨s.toNat, by omega, by omega, by omega⟩
theorem state_of {n : Int} {es : List (Int × Int)} {m : Nat} (hn : netOkB n es = true) (hm : m < 2 ^ es.length) : stateOkB n es m = true := by
  refine stateOkB_iff.2 ⟨hn, by omega, ?_⟩
  rw [pow_cast]; omega
theorem pieces_pos {n s : Int} {es : List (Int × Int)} (h : stateOkB n es s = true) : 1 ≤ piecesB n es s := by
  have h1 := (netOkB_iff.1 (stateOkB_net h)).1
  exact pcs_pos (endsOf_ok (stateOkB_net h)) (by omega)
theorem card_le (T : Nat → Bool) : ∀ m, card T m ≤ m
  | 0 => Nat.le_refl _
  | m + 1 => by have := card_le T m; simp only [card]; split <;> omega
theorem card_ge (T : Nat → Bool) (l : Nat) : ∀ m, l ≤ m → (∀ i, l ≤ i → i < m → T i = false) → card T m = card T l
  | 0, hm, _ => by obtain rfl : l = 0 := by omega
                   rfl
  | m + 1, hm, h => by
    by_cases e : l = m + 1
    · subst e; rfl
    · rw [card, card_ge T l m (by omega) (fun i h1 h2 => h i h1 (by omega)), h m (by omega) (by omega)]; simp
theorem pop_card9 (m : Nat) (hm : m < 512) : pop m = card (fun i => m.testBit i) 9 := by
  revert m; decide +kernel
theorem pop_card {m l : Nat} (hm : m < 2 ^ l) (hl : l ≤ 9) : pop m = card (fun i => m.testBit i) l := by
  have h1 : (2 : Nat) ^ l ≤ 2 ^ 9 := Nat.pow_le_pow_right (by omega) hl
  rw [pop_card9 m (by omega)]
  refine card_ge _ l 9 hl fun i h2 _ => Nat.testBit_lt_two_pow (Nat.lt_of_lt_of_le hm (Nat.pow_le_pow_right (by omega) h2))
theorem there_card {n s : Int} {es : List (Int × Int)} (h : stateOkB n es s = true) : thereI n es s = (card (bits s) es.length : Nat) := by
  obtain ⟨m, rfl, hm, _⟩ := state_nat h
  have h9 := (netOkB_iff.1 (stateOkB_net h)).2.1
  simp [thereI, h]
  rw [pop_card hm h9]; rfl
theorem there_lt {n s : Int} {es : List (Int × Int)} (h : stateOkB n es s = true) : 0 ≤ thereI n es s ∧ thereI n es s ≤ 9 := by
  have h9 := (netOkB_iff.1 (stateOkB_net h)).2.1
  have := card_le (bits s) es.length
  rw [there_card h]; omega
theorem pieces_there {n s : Int} {es : List (Int × Int)} (h : stateOkB n es s = true) : n - thereI n es s ≤ (piecesB n es s : Nat) := by
  have h1 := (netOkB_iff.1 (stateOkB_net h)).1
  have h2 := pcs_card (endsOf_ok (stateOkB_net h)) (bits s) es.length (Nat.le_refl _)
  have h3 : cnt (rep (endsOf es) (bits s) es.length) n.toNat = piecesB n es s := rfl
  rw [there_card h]; omega
theorem state_zero {n : Int} {es : List (Int × Int)} (h : netOkB n es = true) : stateOkB n es 0 = true := by
  have := state_of (m := 0) h (Nat.pow_pos (by omega)); simpa using this
theorem pieces_zero {n : Int} {es : List (Int × Int)} (h : netOkB n es = true) : piecesI n es 0 = n := by
  have h1 := (netOkB_iff.1 h).1
  have h2 : piecesB n es 0 = n.toNat := pcs_none fun i _ => by simp [bits]
  rw [piecesI, state_zero h, if_pos rfl, h2]; omega
theorem or_bit (m k : Nat) (hm : m < 512) (hk : k < 9) : Go.bits BinOp.or IntKind.i64 (m : Int) (wrap64 (2 ^ k)) = ((m ||| 2 ^ k : Nat) : Int) := by
  revert m; revert k; decide +kernel
theorem or_state {n s : Int} {es : List (Int × Int)} {k : Nat} (h : stateOkB n es s = true) (hk : k < es.length) : Go.bits BinOp.or IntKind.i64 s (wrap64 (2 ^ k)) = ((s.toNat ||| 2 ^ k : Nat) : Int) := by
  obtain ⟨m, rfl, _, hm⟩ := state_nat h
  have h9 := (netOkB_iff.1 (stateOkB_net h)).2.1
  exact or_bit m k hm (by omega)
theorem more_lt {m l k : Nat} (hm : m < 2 ^ l) (hk : k < l) : m ||| 2 ^ k < 2 ^ l := Nat.or_lt_two_pow hm (Nat.pow_lt_pow_right (by omega) hk)
theorem pieces_more {n s : Int} {es : List (Int × Int)} {k : Nat} (h : stateOkB n es s = true) (hk : k < es.length) :
    piecesI n es ((s.toNat ||| 2 ^ k : Nat) : Int) = (piecesB n es s : Nat) ∨ piecesI n es ((s.toNat ||| 2 ^ k : Nat) : Int) = (piecesB n es s : Nat) - 1 := by
  have hn := stateOkB_net h
  obtain ⟨m, rfl, hm, _⟩ := state_nat h
  simp only [Int.toNat_natCast]
  have h1 := state_of hn (more_lt hm hk)
  rw [(piecesI_lt h1).1]
  have h2 := pcs_more (T := bits m) (T' := bits ((m ||| 2 ^ k : Nat) : Int)) (endsOf_ok hn) hk (by
    intro i _
    simp only [bits, Int.toNat_natCast, Nat.testBit_or, Nat.testBit_two_pow, Bool.or_eq_true, decide_eq_true_eq]
    constructor
    · rintro (h | h)
      · exact .inl h
      · exact .inr h.symm
    · rintro (h | h)
      · exact .inl h
      · exact .inr h.symm)
  have h3 : pcs (endsOf es) (bits m) es.length n.toNat = piecesB n es m := rfl
  have h4 : pcs (endsOf es) (bits ((m ||| 2 ^ k : Nat) : Int)) es.length n.toNat = piecesB n es ((m ||| 2 ^ k : Nat) : Int) := rfl
  split at h2 <;> omega

theorem joined_iff {n s : Int} {es : List (Int × Int)} {x y : Int} : joinedB n es s x y = true ↔ stateOkB n es s = true ∧ (1 ≤ x ∧ x ≤ n) ∧ (1 ≤ y ∧ y ≤ n) ∧ rep (endsOf es) (bits s) es.length x.toNat = rep (endsOf es) (bits s) es.length y.toNat := by
  simp [joinedB]
theorem joined_swap (n s : Int) (es : List (Int × Int)) (x y : Int) : joinedB n es s y x = joinedB n es s x y := by
  rw [Bool.eq_iff_iff, joined_iff, joined_iff]
  constructor
  · rintro ⟨h1, h2, h3, h4⟩; exact ⟨h1, h3, h2, h4.symm⟩
  · rintro ⟨h1, h2, h3, h4⟩; exact ⟨h1, h3, h2, h4.symm⟩
theorem joined_self {n s : Int} {es : List (Int × Int)} {x : Int} (h : stateOkB n es s = true) (h1 : 1 ≤ x) (h2 : x ≤ n) : joinedB n es s x x = true := joined_iff.2 ⟨h, ⟨h1, h2⟩, ⟨h1, h2⟩, rfl⟩
theorem joined_on {n s : Int} {es : List (Int × Int)} {x y : Int} (h : joinedB n es s x y = true) (z : Int) : joinedB n es s y z = joinedB n es s x z := by
  have h := joined_iff.1 h
  rw [Bool.eq_iff_iff, joined_iff, joined_iff]
  constructor
  · rintro ⟨h1, h2, h3, h4⟩; exact ⟨h1, h.2.1, h3, h.2.2.2.trans h4⟩
  · rintro ⟨h1, h2, h3, h4⟩; exact ⟨h1, h.2.2.1, h3, h.2.2.2.symm.trans h4⟩
theorem joined_edge {n s : Int} {es : List (Int × Int)} {k : Nat} (h : stateOkB n es s = true) (hk : k < es.length) (hb : bits s k = true) : joinedB n es s es[k].1 es[k].2 = true := by
  have hn := stateOkB_net h
  obtain ⟨a, b, he, hE, ha1, hb1, ha7, hb7, haN, hbN⟩ := fits_ends hn hk
  have h1 := (rep_ok (endsOf_ok hn) (bits s) es.length (Nat.le_refl _)).joins k hk hb
  rw [hE] at h1
  rw [he]
  have := (netOkB_iff.1 hn).1
  exact joined_iff.2 ⟨h, ⟨by simp; omega, by simp; omega⟩, ⟨by simp; omega, by simp; omega⟩, by simpa using h1⟩
theorem bit_val (m k : Nat) : ((m : Int) / 2 ^ k).tmod 2 = if bits m k = true then 1 else 0 := by
  have h := bit_of m k
  rw [tmod_of]
  simp only [bits, Int.toNat_natCast, h, decide_eq_true_eq]
  split <;> omega

def allJ (n : Int) (es : List (Int × Int)) (s : Int) : Nat → Bool
  | 0 => true
  | k + 1 => allJ n es s k && joinedB n es s 1 ((k + 1 : Nat) : Int)
theorem allJ_iff (n : Int) (es : List (Int × Int)) (s : Int) : ∀ k, allJ n es s k = true ↔ ∀ x : Nat, 1 ≤ x → x ≤ k → joinedB n es s 1 (x : Int) = true
  | 0 => by simp [allJ]; intro x h1 h2; omega
  | k + 1 => by
    rw [allJ, Bool.and_eq_true, allJ_iff n es s k]
    constructor
    · rintro ⟨h1, h2⟩ x hx hx'
      by_cases e : x = k + 1
      · subst e; exact h2
      · exact h1 x hx (by omega)
    · intro h
      exact ⟨fun x h1 h2 => h x h1 (by omega), h (k + 1) (by omega) (by omega)⟩
theorem whole_all {n s : Int} {es : List (Int × Int)} (h : stateOkB n es s = true) : allJ n es s n.toNat = wholeB n es s := by
  have hn := stateOkB_net h
  have hn6 := (netOkB_iff.1 hn).1
  rw [Bool.eq_iff_iff, allJ_iff]
  have h1 := pcs_whole (E := endsOf es) (T := bits s) (m := es.length) (n := n.toNat) (endsOf_ok hn) (by omega)
  have h2 : pcs (endsOf es) (bits s) es.length n.toNat = piecesB n es s := rfl
  rw [h2] at h1
  have h3 : wholeB n es s = true ↔ piecesB n es s = 1 := by unfold wholeB; rw [(piecesI_lt h).1]; simp; omega
  rw [h3, h1]
  constructor
  · intro h4 x hx hx'
    have := (joined_iff.1 (h4 x hx hx')).2.2.2
    simpa using this
  · intro h4 x hx hx'
    exact joined_iff.2 ⟨h, ⟨by omega, by omega⟩, ⟨by omega, by omega⟩, by simpa using h4 x hx hx'⟩
theorem whole_there {n s : Int} {es : List (Int × Int)} (h : stateOkB n es s = true) (hw : wholeB n es s = true) : n - 1 ≤ thereI n es s := by
  have h1 := pieces_there h
  have h2 : piecesB n es s = 1 := by unfold wholeB at hw; rw [(piecesI_lt h).1] at hw; simp at hw; omega
  omega
theorem whole_not {n s : Int} {es : List (Int × Int)} (h : stateOkB n es s = false) : wholeB n es s = false := by simp [wholeB, piecesI, h]
end Go.Proofs.Ytaplmlbpleilfaa
