/- Chapter 10 of the reference: powers of any number, CountPainted. -/
import Derived.Test.YtdacfeebidhgnabTutte
import Derived.Test.YtdacfeebidhgnabSpec5
import Derived.Test.YtdacfeebidhgnabCounts5
import Derived.Test.YtdacfeebidhgnabSpec2
import Derived.Test.YtdacfeebidhgnabMore2
import Derived.Test.YtdacfeebidhgnabEd
namespace Go.Proofs.Ytdacfeebidhgnab
open Go.RowKit
set_option maxRecDepth 100000

theorem mul_four {x y B : Int} (h1 : -4 ≤ x) (h2 : x ≤ 4) (h3 : -B ≤ y) (h4 : y ≤ B) : -(4 * B) ≤ x * y ∧ x * y ≤ 4 * B := by
  have : x = -4 ∨ x = -3 ∨ x = -2 ∨ x = -1 ∨ x = 0 ∨ x = 1 ∨ x = 2 ∨ x = 3 ∨ x = 4 := by omega
  rcases this with rfl | rfl | rfl | rfl | rfl | rfl | rfl | rfl | rfl <;> omega
theorem powI_four {x : Int} (h1 : -4 ≤ x) (h2 : x ≤ 4) : ∀ k : Nat, -(((4 ^ k : Nat)) : Int) ≤ x ^ k ∧ x ^ k ≤ ((4 ^ k : Nat) : Int)
  | 0 => by simp
  | k + 1 => by
    have h := powI_four h1 h2 k
    have := mul_four h1 h2 h.1 h.2
    rw [Int.pow_succ, Int.mul_comm, Nat.pow_succ]
    omega
theorem powI_bound {x : Int} (h1 : -4 ≤ x) (h2 : x ≤ 4) {k : Nat} (hk : k ≤ 9) : -262144 ≤ x ^ k ∧ x ^ k ≤ 262144 := by
  have h := powI_four h1 h2 k
  have : 4 ^ k ≤ 4 ^ 9 := Nat.pow_le_pow_right (by omega) hk
  have e : 4 ^ 9 = 262144 := by decide
  omega
theorem mul_wrap {x Y : Int} (h1 : -4 ≤ x) (h2 : x ≤ 4) (h3 : -262144 ≤ Y ∧ Y ≤ 262144) : IntKind.i64.wrap (Y * x) = Y * x ∧ wrap64 (Y * x) = Y * x := by
  have := mul_four h1 h2 h3.1 h3.2
  rw [Int.mul_comm x Y] at this
  generalize Y * x = z at *
  exact ⟨IntWalk.i64_in _ (by omega), by unfold wrap64; omega⟩

theorem mul_five {x y B : Int} (h1 : -5 ≤ x) (h2 : x ≤ 5) (h3 : -B ≤ y) (h4 : y ≤ B) : -(5 * B) ≤ x * y ∧ x * y ≤ 5 * B := by
  have : x = -5 ∨ x = -4 ∨ x = -3 ∨ x = -2 ∨ x = -1 ∨ x = 0 ∨ x = 1 ∨ x = 2 ∨ x = 3 ∨ x = 4 ∨ x = 5 := by omega
  rcases this with h | h | h | h | h | h | h | h | h | h | h <;> subst h <;> omega
theorem powI_five {x : Int} (h1 : -5 ≤ x) (h2 : x ≤ 5) : ∀ k : Nat, -(((5 ^ k : Nat)) : Int) ≤ x ^ k ∧ x ^ k ≤ ((5 ^ k : Nat) : Int)
  | 0 => by simp
  | k + 1 => by
    have h := powI_five h1 h2 k
    have := mul_five h1 h2 h.1 h.2
    rw [Int.pow_succ, Int.mul_comm, Nat.pow_succ]
    omega
theorem powF_bound {x : Int} (h1 : -5 ≤ x) (h2 : x ≤ 5) {k : Nat} (hk : k ≤ 9) : -1953125 ≤ x ^ k ∧ x ^ k ≤ 1953125 := by
  have h := powI_five h1 h2 k
  have : 5 ^ k ≤ 5 ^ 9 := Nat.pow_le_pow_right (by omega) hk
  have e : 5 ^ 9 = 1953125 := by decide
  omega
theorem mulF_wrap {x Y : Int} (h1 : -5 ≤ x) (h2 : x ≤ 5) (h3 : -1953125 ≤ Y ∧ Y ≤ 1953125) : IntKind.i64.wrap (Y * x) = Y * x ∧ wrap64 (Y * x) = Y * x := by
  have := mul_five h1 h2 h3.1 h3.2
  rw [Int.mul_comm x Y] at this
  generalize Y * x = z at *
  exact ⟨IntWalk.i64_in _ (by omega), by unfold wrap64; omega⟩

set_option maxHeartbeats 1000000 in
theorem specPowF_any (x : Int) (k : Nat) (h1 : -5 ≤ x) (h2 : x ≤ 5) (hk : k ≤ 9) (w : World) :
    Calls Try.prog 71 #[.int .i64 x, .int .i64 k] w fun e w' => e = .returned (.int .i64 (x ^ k)) ∧ w = w' := by
  obtain ⟨Z, hZ⟩ : ∃ Z, x ^ k = Z := ⟨_, rfl⟩
  have HZ := Lib.hid hZ
  rw [hZ]
  clear hZ
  go_enter Try.func71, Try.ntmps71
  go_wp2_with fail
  go_loopw [5, 6] (fun v i wr => ∃ (j : Nat) (Y : Int), j ≤ k ∧ i = .int .i64 j ∧ v = .int .i64 Y ∧ Hid (x ^ j = Y) ∧ (-1953125 ≤ Y ∧ Y ≤ 1953125) ∧ wr = w) (fun _ i _ => k - (intOf i).toNat)
  case atStart => exact ⟨0, 1, by omega, rfl, rfl, by simp [Hid], by omega, rfl⟩
  case round =>
    obtain ⟨j, Y, hj, rfl, rfl, HY, hY, rfl⟩ := hrel
    by_cases hlt : j < k
    · have hs : Hid (x ^ (j + 1) = Y * x) := by rw [Hid, Int.pow_succ, HY.out]
      have hb : -1953125 ≤ Y * x ∧ Y * x ≤ 1953125 := by rw [← hs.out]; exact powF_bound h1 h2 (by omega)
      obtain ⟨hw1, hw2⟩ := mulF_wrap h1 h2 hY
      go_wp2_with fail
      go_roundw
      case rel => exact ⟨j + 1, Y * x, by omega, by go_num, by first | rfl | (congr 1; done) | go_num, hs, hb, by first | rfl | trivial⟩
      case measure => simp [intOf]; omega
    · obtain rfl : j = k := by omega
      have : Y = Z := by rw [← HY.out, HZ.out]
      subst this
      go_wp2_with fail
      go_returns
      exact ⟨rfl, rfl⟩
theorem specPowF_is (x : Int) (k : Nat) (Z : Int) (h : x ^ k = Z) (h1 : -5 ≤ x) (h2 : x ≤ 5) (hk : k ≤ 9) (w : World) :
    Calls Try.prog 71 #[.int .i64 x, .int .i64 k] w fun e w' => e = .returned (.int .i64 Z) ∧ w = w' := h ▸ specPowF_any x k h1 h2 hk w
theorem specPowI_any (x : Int) (k : Nat) (h1 : -4 ≤ x) (h2 : x ≤ 4) (hk : k ≤ 9) (w : World) :
    Calls Try.prog 71 #[.int .i64 x, .int .i64 k] w fun e w' => e = .returned (.int .i64 (x ^ k)) ∧ w = w' := specPowF_any x k (by omega) (by omega) hk w
theorem specPowI_is (x : Int) (k : Nat) (Z : Int) (h : x ^ k = Z) (h1 : -4 ≤ x) (h2 : x ≤ 4) (hk : k ≤ 9) (w : World) :
    Calls Try.prog 71 #[.int .i64 x, .int .i64 k] w fun e w' => e = .returned (.int .i64 Z) ∧ w = w' := h ▸ specPowI_any x k h1 h2 hk w

/-- How many of the first s numbers meet q. -/
def cP (q : Nat → Bool) (s : Nat) : Nat := (List.range s).countP q
theorem cP_next (q : Nat → Bool) (s : Nat) : cP q (s + 1) = cP q s + if q s = true then 1 else 0 := by
  unfold cP
  rw [List.range_succ, List.countP_append, List.countP_cons, List.countP_nil, Nat.zero_add]
theorem cP_le (q : Nat → Bool) (s : Nat) : cP q s ≤ s := by
  have := List.countP_le_length (p := q) (l := List.range s)
  rwa [List.length_range] at this
theorem cP_hit {q : Nat → Bool} {s : Nat} (h : q s = true) : cP q (s + 1) = cP q s + 1 := by rw [cP_next, if_pos h]
theorem cP_miss {q : Nat → Bool} {s : Nat} (h : q s = false) : cP q (s + 1) = cP q s := by rw [cP_next, h]; rfl

def colOkB (n : Int) (es : List (Int × Int)) (c : Int) : Bool := netOkB n es && (decide (0 ≤ c) && decide (c ≤ 4))
/-- Both ends of an edge have different colours in the painting s. -/
def difB (c s : Nat) (e : Int × Int) : Bool := !decide (dig c s e.1.toNat = dig c s e.2.toNat)
def paintQ (es : List (Int × Int)) (c s : Nat) : Bool := es.all (difB c s)
def paintI (n : Int) (es : List (Int × Int)) (c : Int) : Int := if colOkB n es c = true then ((cP (paintQ es c.toNat) (c.toNat ^ n.toNat) : Nat) : Int) else -1
theorem paintQ_ends (es : List (Int × Int)) (c s : Nat) : paintQ es c s = (endsL es).all fun e => !decide (dig c s e.1 = dig c s e.2) := by
  unfold paintQ endsL
  rw [List.all_map]; rfl
theorem paintI_ok {n : Int} {es : List (Int × Int)} {c : Int} (h : colOkB n es c = true) : paintI n es c = ((paintN c.toNat n.toNat (endsL es) : Nat) : Int) := by
  unfold paintI paintN cP
  rw [if_pos h]
  congr 2
  funext s; exact paintQ_ends es _ s
theorem powN_le {c m : Nat} (hc : c ≤ 4) (hm : m ≤ 6) : c ^ m ≤ 4096 := by
  have h1 : c ^ m ≤ 4 ^ m := Nat.pow_le_pow_left hc m
  have h2 : 4 ^ m ≤ 4 ^ 6 := Nat.pow_le_pow_right (by omega) hm
  have : 4 ^ 6 = 4096 := by decide
  omega
theorem specPowN_is (c k Z : Nat) (h : c ^ k = Z) (hc : c ≤ 4) (hk : k ≤ 9) (w : World) :
    Calls Try.prog 71 #[.int .i64 c, .int .i64 k] w fun e w' => e = .returned (.int .i64 (Z : Nat)) ∧ w = w' :=
  specPower_is c k Z h (by omega) hk w
theorem dig_int (c s Z : Nat) : ((s : Int).tdiv (Z : Int)).tmod (c : Int) = ((s / Z % c : Nat) : Int) := by
  rw [Int.tdiv_eq_ediv_of_nonneg (by omega), Int.tmod_eq_emod_of_nonneg (Int.ediv_nonneg (by omega) (by omega))]
  rfl
/-- A digit, as the walk tells it. -/
theorem dig_walk (s X C : Nat) : ∃ p a : Nat, ((1 ≤ X → s ≤ 4096 → wrap64 ((s : Int) / (X : Int)) = (p : Int)) ∧ s / X % C = a) ∧ (p : Int).tmod (C : Int) = (a : Int) ∧ (1 ≤ C → a < C) :=
  ⟨s / X, s / X % C, ⟨fun h1 h2 => by
    have : s / X ≤ s := Nat.div_le_self _ _
    rw [← Int.natCast_ediv]
    generalize s / X = p at *
    unfold wrap64; omega, rfl⟩, by rw [Int.tmod_eq_emod_of_nonneg (Int.natCast_nonneg _)]; rfl, fun h => Nat.mod_lt _ (by omega)⟩
theorem all_take_next {q : Int × Int → Bool} {es : List (Int × Int)} {k : Nat} {e : Int × Int} (h : es[k]? = some e) : (es.take (k + 1)).all q = ((es.take k).all q && q e) := by
  obtain ⟨hk, rfl⟩ := List.getElem?_eq_some_iff.1 h
  rw [List.take_succ_eq_append_getElem hk, List.all_append]; simp

end Go.Proofs.Ytdacfeebidhgnab

/- Chapter 10 of the reference: PaintedSum and FlowsSum. -/
namespace Go.Proofs.Ytdacfeebidhgnab
open Go.RowKit
set_option maxRecDepth 100000

/-- What a state adds to PaintedSum, and to FlowsSum. -/
def paintT (n : Int) (es : List (Int × Int)) (x : Int) (s : Nat) : Int := sgn (pop s) (x ^ piecesB n es s)
def flowT (n : Int) (es : List (Int × Int)) (x : Int) (s : Nat) : Int := sgn (es.length + pop s) (x ^ (pop s + piecesB n es s - n.toNat))
def sumOkB (n : Int) (es : List (Int × Int)) (x : Int) : Bool := netOkB n es && (decide (-4 ≤ x) && decide (x ≤ 4))
def flowOkB (n : Int) (es : List (Int × Int)) (x : Int) : Bool := netOkB n es && (decide (es.length ≤ 6) && (decide (1 ≤ x) && decide (x ≤ 4)))
def paintSumI (n : Int) (es : List (Int × Int)) (x : Int) : Int := if sumOkB n es x = true then sumS (paintT n es x) (2 ^ es.length) else 0
def flowSumI (n : Int) (es : List (Int × Int)) (x : Int) : Int := if flowOkB n es x = true then sumS (flowT n es x) (2 ^ es.length) else 0
theorem sgn_bound (t : Nat) {x B : Int} (h : -B ≤ x ∧ x ≤ B) : -B ≤ sgn t x ∧ sgn t x ≤ B := by unfold sgn; split <;> omega
theorem pow6_bound {x : Int} (h1 : -4 ≤ x) (h2 : x ≤ 4) {k : Nat} (hk : k ≤ 6) : -4096 ≤ x ^ k ∧ x ^ k ≤ 4096 := by
  have h := powI_four h1 h2 k
  have : 4 ^ k ≤ 4 ^ 6 := Nat.pow_le_pow_right (by omega) hk
  have e : 4 ^ 6 = 4096 := by decide
  omega
theorem sumS_bound {f : Nat → Int} {B : Int} (hB : 0 ≤ B) (h : ∀ k, -B ≤ f k ∧ f k ≤ B) : ∀ s : Nat, -(s * B) ≤ sumS f s ∧ sumS f s ≤ s * B
  | 0 => by simp [sumS]
  | s + 1 => by
    have h1 := sumS_bound hB h s
    have h2 := h s
    simp only [sumS, Int.natCast_add, Int.add_mul]
    omega
theorem sumS_small {f : Nat → Int} (h : ∀ k, -4096 ≤ f k ∧ f k ≤ 4096) {s : Nat} (hs : s ≤ 512) : -2097152 ≤ sumS f s ∧ sumS f s ≤ 2097152 := by
  have h1 := sumS_bound (B := 4096) (by omega) h s
  omega
theorem sum_both {S T U : Int} (hU : U = S + T) (h1 : -2097152 ≤ S ∧ S ≤ 2097152) (h2 : -4096 ≤ T ∧ T ≤ 4096) : IntKind.i64.wrap (S + T) = U ∧ wrap64 (S + T) = U := by
  rw [hU]
  exact ⟨IntWalk.i64_in _ (by omega), by unfold wrap64; omega⟩
theorem neg_wrap {Y : Int} (h : -4096 ≤ Y ∧ Y ≤ 4096) : IntKind.i64.wrap (-Y) = -Y ∧ wrap64 (-Y) = -Y := ⟨IntWalk.i64_in _ (by omega), by unfold wrap64; omega⟩
theorem sgn_even {t : Nat} (h : ¬ t % 2 = 1) (x : Int) : sgn t x = x := by unfold sgn; rw [if_pos (by omega)]
theorem sgn_odd {t : Nat} (h : t % 2 = 1) (x : Int) : sgn t x = -x := by unfold sgn; rw [if_neg (by omega)]
theorem pieces_six {n : Int} {es : List (Int × Int)} {s : Int} (h : stateOkB n es s = true) : piecesB n es s ≤ 6 := by
  have h1 := (netOkB_iff.1 (stateOkB_net h)).1
  have : piecesB n es s ≤ n.toNat := pcs_le _ _ _ _
  omega
theorem paintT_bound {n : Int} {es : List (Int × Int)} (hn : netOkB n es = true) {x : Int} (h1 : -4 ≤ x) (h2 : x ≤ 4) (s : Nat) : -4096 ≤ paintT n es x s ∧ paintT n es x s ≤ 4096 := by
  have h : piecesB n es s ≤ 6 := by
    have h1 := (netOkB_iff.1 hn).1
    have : piecesB n es s ≤ n.toNat := pcs_le _ _ _ _
    omega
  exact sgn_bound _ (pow6_bound h1 h2 h)
theorem mod_nat2 (t : Nat) : ((t : Int)).tmod 2 = ((t % 2 : Nat) : Int) := by rw [Int.tmod_eq_emod_of_nonneg (Int.natCast_nonneg _)]; rfl

theorem flow_exp {n : Int} {es : List (Int × Int)} (hn : netOkB n es = true) (h6 : es.length ≤ 6) {s : Nat} (hs : s < 2 ^ es.length) :
    ∃ e : Nat, pop s + piecesB n es s = n.toNat + e ∧ e ≤ 6 ∧ pop s ≤ es.length ∧ 2 ≤ n ∧ n ≤ 6 ∧ piecesB n es s ≤ 6 := by
  have hso := state_of hn hs
  have h1 := netOkB_iff.1 hn
  have h2 := pieces_there hso
  have h3 := pieces_six hso
  have h4 : pop s ≤ es.length := pop_low hs (by omega)
  have h5 : piecesB n es s ≤ n.toNat := pcs_le _ _ _ _
  have h7 : thereI n es s = pop s := by unfold thereI; rw [hso, if_pos rfl]; rfl
  rw [h7] at h2
  exact ⟨pop s + piecesB n es s - n.toNat, by omega, by omega, h4, by omega, by omega, h3⟩
theorem flowT_bound {n : Int} {es : List (Int × Int)} (hn : netOkB n es = true) (h6 : es.length ≤ 6) {x : Int} (h1 : -4 ≤ x) (h2 : x ≤ 4) {s : Nat} (hs : s < 2 ^ es.length) : -4096 ≤ flowT n es x s ∧ flowT n es x s ≤ 4096 := by
  obtain ⟨e, he, he6, -⟩ := flow_exp hn h6 hs
  unfold flowT
  rw [show pop s + piecesB n es s - n.toNat = e by omega]
  exact sgn_bound _ (pow6_bound h1 h2 he6)
theorem sumS_smallP {f : Nat → Int} {P : Nat} (h : ∀ k, k < P → -4096 ≤ f k ∧ f k ≤ 4096) {s : Nat} (hs : s ≤ P) (hP : P ≤ 512) : -2097152 ≤ sumS f s ∧ sumS f s ≤ 2097152 := by
  have h1 := sumS_small (f := fun k => if k < P then f k else 0) (fun k => by
    show -4096 ≤ (if k < P then f k else 0) ∧ (if k < P then f k else 0) ≤ 4096
    by_cases hk : k < P
    · rw [if_pos hk]; exact h k hk
    · rw [if_neg hk]; omega) (s := s) (by omega)
  rwa [sumS_congr (g := f) s (fun k hk => if_pos (by omega))] at h1
theorem exp_wrap {t pb m e : Nat} (h : t + pb = m + e) (hp : pb ≤ 6) (he : e ≤ 6) (hm : m ≤ 6) :
    (IntKind.i64.wrap ((t : Int) - (m : Int)) = (t : Int) - (m : Int) ∧ wrap64 ((t : Int) - (m : Int)) = (t : Int) - (m : Int)) ∧ IntKind.i64.wrap ((t : Int) - (m : Int) + (pb : Int)) = (e : Int) ∧ wrap64 ((t : Int) - (m : Int) + (pb : Int)) = (e : Int) := by
  have h1 : (t : Int) - (m : Int) + (pb : Int) = (e : Int) := by omega
  rw [h1]
  exact ⟨⟨IntWalk.i64_in _ (by omega), by unfold wrap64; omega⟩, IntWalk.i64_in _ (by omega), by unfold wrap64; omega⟩
theorem par_wrap {t l : Nat} (h : t ≤ l) (hl : l ≤ 9) :
    (IntKind.i64.wrap ((l : Int) - (t : Int)) = (l : Int) - (t : Int) ∧ wrap64 ((l : Int) - (t : Int)) = (l : Int) - (t : Int)) ∧ ((l : Int) - (t : Int)).tmod 2 = (if (l + t) % 2 = 1 then 1 else 0) ∧ True := by
  refine ⟨⟨IntWalk.i64_in _ (by omega), by unfold wrap64; omega⟩, ?_, trivial⟩
  rw [Int.tmod_eq_emod_of_nonneg (by omega)]
  split <;> omega

end Go.Proofs.Ytdacfeebidhgnab
