/- Plain facts for the law of WholeCounts: nets with an edge taken away or made one, and rows taken twice. -/
import Derived.Test.YtdacfeebidhgnaaBothL
import Derived.Test.YtdacfeebidhgnaaWithout
namespace Go.Proofs.Ytdacfeebidhgnaa
open Go.RowKit
set_option maxRecDepth 100000

theorem splitRen_range {n v : Int} {g : Int × Int} (hg : 1 ≤ g.1 ∧ g.1 < g.2 ∧ g.2 ≤ n) (hv : 1 ≤ v ∧ v ≤ n) : 1 ≤ renI g v ∧ renI g v ≤ n - 1 := by
  unfold renI; split
  · omega
  · split <;> omega
theorem splitMm_fits {n : Int} {g e : Int × Int} (hg : 1 ≤ g.1 ∧ g.1 < g.2 ∧ g.2 ≤ n) (he : 1 ≤ e.1 ∧ e.1 < e.2 ∧ e.2 ≤ n) (hne : e ≠ g) :
    1 ≤ (mmE g e).1 ∧ (mmE g e).1 < (mmE g e).2 ∧ (mmE g e).2 ≤ n - 1 := by
  have h1 := splitRen_range hg ⟨he.1, by omega⟩
  have h2 := splitRen_range (v := e.2) hg ⟨by omega, he.2.2⟩
  have h3 : renI g e.1 ≠ renI g e.2 := fun h => hne ((ren_eq hg.2.1 he.2.1).1 h)
  unfold mmE
  simp only
  split <;> split <;> omega
theorem wholeC_le (n : Int) (es : List (Int × Int)) (k : Nat) : wholeC n es k ≤ chs es.length k := by
  have := ways_le (wholeA n.toNat) (endsL es) (fun x => x) k
  rwa [endsL_length] at this
theorem wholeC_more {n : Int} {es : List (Int × Int)} {k : Nat} (h : es.length < k) : wholeC n es k = 0 := by
  have := wholeC_le n es k
  rw [chs_more _ _ h] at this; omega
theorem wholeC_max {n : Int} {es : List (Int × Int)} (h : es.length ≤ 20) (k : Nat) : wholeC n es k ≤ 1048576 := Nat.le_trans (wholeC_le n es k) (chs_bound h k)

/-- For each edge of a net of 3 nodes or more. -/
theorem split_facts {n : Int} {es : List (Int × Int)} {at_ : Nat} (hn : netOkB n es = true) (h3 : 3 ≤ n) (hat : at_ < es.length) :
    ∃ (le je : List (Int × Int)) (c0 : Nat), wE n es at_ = le ∧ wN n es at_ = n ∧ atOkB n es at_ = true ∧ mE n es at_ = je ∧ mN n es at_ = n - 1 ∧ mL n es at_ = (c0 : Nat) ∧ mOk n es at_ = true ∧
      netOkB n le = true ∧ le.length + 1 = es.length ∧ netOkB (n - 1) je = true ∧ je.length + 1 + c0 = es.length ∧
      ∀ k, wholeC n es k = wholeC n le k + later (twN c0 (wholeC (n - 1) je)) k := by
  obtain ⟨⟨n2, n6⟩, h9, hev⟩ := netOkB_iff.1 hn
  have hg := hev es[at_] (List.getElem_mem hat)
  have hml := madeL_length es[at_] es
  have hc1 : 1 ≤ es.countP (fun e => eqEB e es[at_]) := List.countP_pos_iff.2 ⟨es[at_], List.getElem_mem hat, by simp [eqEB]⟩
  have hl : (es.take at_ ++ es.drop (at_ + 1)).length + 1 = es.length := by simp; omega
  have hn1 : netOkB n (es.take at_ ++ es.drop (at_ + 1)) = true := by
    refine netOkB_iff.2 ⟨⟨n2, n6⟩, by omega, fun e he => hev e ?_⟩
    rw [List.mem_append] at he
    rcases he with he | he
    · exact List.mem_of_mem_take he
    · exact List.mem_of_mem_drop he
  have hn' : netOkB (n - 1) (madeL es[at_] es) = true := by
    refine netOkB_iff.2 ⟨⟨by omega, by omega⟩, by omega, fun e he => ?_⟩
    unfold madeL at he
    rw [List.mem_map] at he
    obtain ⟨x, hx, rfl⟩ := he
    rw [List.mem_filter] at hx
    exact splitMm_fits hg (hev x hx.1) (by simpa [eqEB] using hx.2)
  have hok : atOkB n es at_ = true := by simp [atOkB, hn, hat]
  have hm : mOk n es at_ = true := by simp [mOk, hok, h3]
  have hgd : es.getD at_ (0, 0) = es[at_] := by simp [List.getD, hat]
  refine ⟨_, _, es.countP (fun e => eqEB e es[at_]) - 1, if_pos hok, if_pos hok, hok, (if_pos hm).trans ?_, if_pos hm, (if_pos hm).trans ?_, hm, hn1, hl, hn', by omega, fun k => wholeC_split hn hat k⟩
  · simp only [Int.toNat_natCast, hgd]
  · simp only [Int.toNat_natCast, hgd]; omega

theorem twN_zero {q : Nat → Nat} {s : Nat} (h : ∀ k, s ≤ k → q k = 0) : ∀ j k, s + j ≤ k → twN j q k = 0
  | 0, k, hk => h k (by omega)
  | j + 1, k, hk => by
    simp only [twN, tw]
    rw [twN_zero h j k (by omega), if_neg (by omega), twN_zero h j (k - 1) (by omega)]
theorem twN_le {q : Nat → Nat} {M : Nat} (h : ∀ k, q k ≤ M) : ∀ j k, twN j q k ≤ 2 ^ j * M
  | 0, k => by simpa [twN] using h k
  | j + 1, k => by
    have h1 := twN_le h j k
    have h2 := twN_le h j (k - 1)
    have h3 : 2 ^ (j + 1) * M = 2 ^ j * M + 2 ^ j * M := by rw [Nat.pow_succ]; rw [Nat.mul_comm (2 ^ j) 2, Nat.mul_assoc]; omega
    simp only [twN, tw]
    rw [h3]
    generalize 2 ^ j * M = P at *
    split <;> omega
def rowTw (q : Nat → Nat) (s j : Nat) : List Int := rowL (fun k => (twN j q k : Nat)) (s + j)
theorem rowTw_length (q : Nat → Nat) (s j : Nat) : (rowTw q s j).length = s + j := rowL_length _ _
theorem rowTw_get (q : Nat → Nat) {s j k : Nat} (h : k < s + j) : (rowTw q s j).getD k 0 = (twN j q k : Nat) := rowL_getD _ h
theorem rowTw_step {q : Nat → Nat} {s j : Nat} (h : ∀ k, s ≤ k → q k = 0) (hM : ∀ k, q k ≤ 1048576) (h1 : 1 ≤ s) (h2 : s + j ≤ 20) : bothL (rowTw q s j) [1, 1] = rowTw q s (j + 1) := by
  have hg : ∀ k, (rowTw q s j).getD k 0 = ((twN j q k : Nat) : Int) := fun k => by
    by_cases hk : k < s + j
    · exact rowTw_get q hk
    · rw [List.getD_eq_getElem?_getD, List.getElem?_eq_none (by rw [rowTw_length]; omega), twN_zero h j k (by omega)]; rfl
  unfold bothL
  rw [if_pos (by simp only [bothOkB, rowTw_length, Bool.and_eq_true, decide_eq_true_eq, List.length_cons, List.length_nil]; omega), togL_is]
  simp only [rowTw_length, List.length_cons, List.length_nil]
  refine rowL_congr fun k _ => ?_
  have hb := twN_le hM (j + 1) k
  have hp : 2 ^ (j + 1) ≤ 2 ^ 20 := Nat.pow_le_pow_right (by omega) (by omega)
  have hb2 : twN (j + 1) q k ≤ 2 ^ 20 * 1048576 := Nat.le_trans hb (Nat.mul_le_mul_right _ hp)
  have e : conv (rowTw q s j) [1, 1] k = ((twN (j + 1) q k : Nat) : Int) := by
    rw [conv_tw]
    simp only [twN, tw]
    cases k with
    | zero => rw [hg]; rfl
    | succ k =>
      show (rowTw q s j).getD (k + 1) 0 + (rowTw q s j).getD k 0 = _
      rw [hg, hg, if_neg (by omega), Nat.add_sub_cancel, Int.natCast_add]
  rw [e]
  refine IntWalk.i64_in _ ?_
  generalize twN (j + 1) q k = z at *
  have : z ≤ 1099511627776 := hb2
  omega
end Go.Proofs.Ytdacfeebidhgnaa
