/- Plain facts for the law of WholeCounts: nets with an edge taken away or made one, and rows taken twice. -/
import Derived.Test.YtdacfeebidhgnaaBothL
import Derived.Test.YtdacfeebidhgnaaWithout
import Derived.Test.YtdacfeebidhgnaaCounts
namespace Go.Proofs.Ytdacfeebidhgnaa
open Go.RowKit
set_option maxRecDepth 100000

theorem splitRen_range {n v : Int} {g : Int × Int} (hg : 1 ≤ g.1 ∧ g.1 < g.2 ∧ g.2 ≤ n) (hv : 1 ≤ v ∧ v ≤ n) : 1 ≤ renI g v ∧ renI g v ≤ n - 1 := by
  unfold renI; split
  · omega
  · split <;> omega
theorem splitMm_fits {n : Int} {g e : Int × Int} (hg : 1 ≤ g.1 ∧ g.1 < g.2 ∧ g.2 ≤ n) (he : 1 ≤ e.1 ∧ e.1 < e.2 ∧ e.2 ≤ n) (hne : e ≠ g) :
    1 ≤ (mmE g e).1 ∧ (mmE g e).1 < (mmE g e).2 ∧ (mmE g e).2 ≤ n - 1 := by
  have h1 := splitRen_range hg ⟨he.1, by omega⟩
  have h2 := splitRen_range (v := e.2) hg ⟨by omega, he.2.2⟩
  have h3 : renI g e.1 ≠ renI g e.2 := fun h => hne ((ren_eq hg.2.1 he.2.1).1 h)
  unfold mmE
  simp only
  split <;> split <;> omega
theorem wholeC_le (n : Int) (es : List (Int × Int)) (k : Nat) : wholeC n es k ≤ chs es.length k := by
  have := ways_le (wholeA n.toNat) (endsL es) (fun x => x) k
  rwa [endsL_length] at this
theorem wholeC_more {n : Int} {es : List (Int × Int)} {k : Nat} (h : es.length < k) : wholeC n es k = 0 := by
  have := wholeC_le n es k
  rw [chs_more _ _ h] at this; omega
theorem wholeC_max {n : Int} {es : List (Int × Int)} (h : es.length ≤ 20) (k : Nat) : wholeC n es k ≤ 1048576 := Nat.le_trans (wholeC_le n es k) (chs_bound h k)

/-- For each edge of a net of 3 nodes or more. -/
theorem split_facts {n : Int} {es : List (Int × Int)} {at_ : Nat} (hn : netOkB n es = true) (h3 : 3 ≤ n) (hat : at_ < es.length) :
    ∃ (le je : List (Int × Int)) (c0 : Nat), wE n es at_ = le ∧ wN n es at_ = n ∧ atOkB n es at_ = true ∧ mE n es at_ = je ∧ mN n es at_ = n - 1 ∧ mL n es at_ = (c0 : Nat) ∧ mOk n es at_ = true ∧
      netOkB n le = true ∧ le.length + 1 = es.length ∧ netOkB (n - 1) je = true ∧ je.length + 1 + c0 = es.length ∧
      ∀ k, wholeC n es k = wholeC n le k + later (twN c0 (wholeC (n - 1) je)) k := by
  obtain ⟨⟨n2, n6⟩, h9, hev⟩ := netOkB_iff.1 hn
  have hg := hev es[at_] (List.getElem_mem hat)
  have hml := madeL_length es[at_] es
  have hc1 : 1 ≤ es.countP (fun e => eqEB e es[at_]) := List.countP_pos_iff.2 ⟨es[at_], List.getElem_mem hat, by simp [eqEB]⟩
  have hl : (es.take at_ ++ es.drop (at_ + 1)).length + 1 = es.length := by simp; omega
  have hn1 : netOkB n (es.take at_ ++ es.drop (at_ + 1)) = true := by
    refine netOkB_iff.2 ⟨⟨n2, n6⟩, by omega, fun e he => hev e ?_⟩
    rw [List.mem_append] at he
    rcases he with he | he
    · exact List.mem_of_mem_take he
    · exact List.mem_of_mem_drop he
  have hn' : netOkB (n - 1) (madeL es[at_] es) = true := by
    refine netOkB_iff.2 ⟨⟨by omega, by omega⟩, by omega, fun e he => ?_⟩
    unfold madeL at he
    rw [List.mem_map] at he
    obtain ⟨x, hx, rfl⟩ := he
    rw [List.mem_filter] at hx
    exact splitMm_fits hg (hev x hx.1) (by simpa [eqEB] using hx.2)
  have hok : atOkB n es at_ = true := by simp [atOkB, hn, hat]
  have hm : mOk n es at_ = true := by simp [mOk, hok, h3]
  have hgd : es.getD at_ (0, 0) = es[at_] := by simp [List.getD, hat]
  refine ⟨_, _, es.countP (fun e => eqEB e es[at_]) - 1, if_pos hok, if_pos hok, hok, (if_pos hm).trans ?_, if_pos hm, (if_pos hm).trans ?_, hm, hn1, hl, hn', by omega, fun k => wholeC_split hn hat k⟩
  · simp only [Int.toNat_natCast, hgd]
  · simp only [Int.toNat_natCast, hgd]; omega

theorem twN_zero {q : Nat → Nat} {s : Nat} (h : ∀ k, s ≤ k → q k = 0) : ∀ j k, s + j ≤ k → twN j q k = 0
  | 0, k, hk => h k (by omega)
  | j + 1, k, hk => by
    simp only [twN, tw]
    rw [twN_zero h j k (by omega), if_neg (by omega), twN_zero h j (k - 1) (by omega)]
theorem twN_le {q : Nat → Nat} {M : Nat} (h : ∀ k, q k ≤ M) : ∀ j k, twN j q k ≤ 2 ^ j * M
  | 0, k => by simpa [twN] using h k
  | j + 1, k => by
    have h1 := twN_le h j k
    have h2 := twN_le h j (k - 1)
    have h3 : 2 ^ (j + 1) * M = 2 ^ j * M + 2 ^ j * M := by rw [Nat.pow_succ]; rw [Nat.mul_comm (2 ^ j) 2, Nat.mul_assoc]; omega
    simp only [twN, tw]
    rw [h3]
    generalize 2 ^ j * M = P at *
    split <;> omega
def rowTw (q : Nat → Nat) (s j : Nat) : List Int := rowL (fun k => (twN j q k : Nat)) (s + j)
theorem rowTw_length (q : Nat → Nat) (s j : Nat) : (rowTw q s j).length = s + j := rowL_length _ _
theorem rowTw_get (q : Nat → Nat) {s j k : Nat} (h : k < s + j) : (rowTw q s j).getD k 0 = (twN j q k : Nat) := rowL_getD _ h
theorem rowTw_step {q : Nat → Nat} {s j : Nat} (h : ∀ k, s ≤ k → q k = 0) (hM : ∀ k, q k ≤ 1048576) (h1 : 1 ≤ s) (h2 : s + j ≤ 20) : bothL (rowTw q s j) [1, 1] = rowTw q s (j + 1) := by
  have hg : ∀ k, (rowTw q s j).getD k 0 = ((twN j q k : Nat) : Int) := fun k => by
    by_cases hk : k < s + j
    · exact rowTw_get q hk
    · rw [List.getD_eq_getElem?_getD, List.getElem?_eq_none (by rw [rowTw_length]; omega), twN_zero h j k (by omega)]; rfl
  unfold bothL
  rw [if_pos (by simp only [bothOkB, rowTw_length, Bool.and_eq_true, decide_eq_true_eq, List.length_cons, List.length_nil]; omega), togL_is]
  simp only [rowTw_length, List.length_cons, List.length_nil]
  refine rowL_congr fun k _ => ?_
  have hb := twN_le hM (j + 1) k
  have hp : 2 ^ (j + 1) ≤ 2 ^ 20 := Nat.pow_le_pow_right (by omega) (by omega)
  have hb2 : twN (j + 1) q k ≤ 2 ^ 20 * 1048576 := Nat.le_trans hb (Nat.mul_le_mul_right _ hp)
  have e : conv (rowTw q s j) [1, 1] k = ((twN (j + 1) q k : Nat) : Int) := by
    rw [conv_tw]
    simp only [twN, tw]
    cases k with
    | zero => rw [hg]; rfl
    | succ k =>
      show (rowTw q s j).getD (k + 1) 0 + (rowTw q s j).getD k 0 = _
      rw [hg, hg, if_neg (by omega), Nat.add_sub_cancel, Int.natCast_add]
  rw [e]
  refine IntWalk.i64_in _ ?_
  generalize twN (j + 1) q k = z at *
  have : z ≤ 1099511627776 := hb2
  omega
end Go.Proofs.Ytdacfeebidhgnaa

/- Plain facts on the ways of a chance: sums of counts, weighed. -/
namespace Go.Proofs.Ytdacfeebidhgnaa
set_option maxRecDepth 100000

/-- Of l things, so many there with count c: p parts for one that is there, r for one that is not. -/
def wsum (c : Nat → Nat) (l p r : Nat) : Nat := sumN (fun k => c k * (p ^ k * r ^ (l - k))) (l + 1)
theorem sumN_zero {f : Nat → Nat} : ∀ n, (∀ k, k < n → f k = 0) → sumN f n = 0
  | 0, _ => rfl
  | n + 1, h => by rw [sumN, sumN_zero n (fun k hk => h k (by omega)), h n (by omega)]
theorem wsum_none (c : Nat → Nat) (l r : Nat) : wsum c l 0 r = c 0 * r ^ l := by
  unfold wsum
  rw [sumN_first, sumN_zero l (fun k _ => by rw [Nat.pow_succ]; simp)]
  simp
theorem wsum_full (c : Nat → Nat) (l p : Nat) : wsum c l p 0 = c l * p ^ l := by
  unfold wsum
  rw [sumN, sumN_zero l (fun k hk => by rw [show l - k = (l - k - 1) + 1 by omega, Nat.pow_succ]; simp)]
  simp
theorem sumN_rev (f : Nat → Nat) : ∀ n, sumN (fun k => f (n - k)) (n + 1) = sumN f (n + 1)
  | 0 => rfl
  | n + 1 => by
    have h1 : sumN (fun k => f (n + 1 - (k + 1))) (n + 1) = sumN (fun k => f (n - k)) (n + 1) := sumN_congr _ fun k _ => by rw [Nat.add_sub_add_right]
    rw [sumN_first, h1, sumN_rev f n, Nat.sub_zero]
    show _ = sumN f (n + 1) + f (n + 1)
    omega
theorem wsum_rev (c : Nat → Nat) (l p r : Nat) : wsum (fun k => c (l - k)) l r p = wsum c l p r := by
  unfold wsum
  rw [← sumN_rev (fun k => c k * (p ^ k * r ^ (l - k))) l]
  refine sumN_congr _ fun k hk => ?_
  rw [show l - (l - k) = k by omega, Nat.mul_comm (r ^ k)]
theorem wsum_congr {c d : Nat → Nat} {l : Nat} (h : ∀ k, k ≤ l → c k = d k) (p r : Nat) : wsum c l p r = wsum d l p r :=
  sumN_congr _ fun k hk => by rw [h k (by omega)]
/-- An edge is there, or not, with its chance. -/
theorem wsum_split {a b : Nat → Nat} {l : Nat} (ha : a (l + 1) = 0) (p r : Nat) : wsum (fun k => a k + later b k) (l + 1) p r = r * wsum a l p r + p * wsum b l p r := by
  unfold wsum
  have h1 : sumN (fun k => (a k + later b k) * (p ^ k * r ^ (l + 1 - k))) (l + 1 + 1) = sumN (fun k => a k * (p ^ k * r ^ (l + 1 - k))) (l + 1 + 1) + sumN (fun k => later b k * (p ^ k * r ^ (l + 1 - k))) (l + 1 + 1) := by
    rw [← sumN_add]; exact sumN_congr _ fun k _ => by rw [Nat.add_mul]
  have h2 : sumN (fun k => a k * (p ^ k * r ^ (l + 1 - k))) (l + 1 + 1) = r * sumN (fun k => a k * (p ^ k * r ^ (l - k))) (l + 1) := by
    rw [sumN, ha, Nat.zero_mul, Nat.add_zero, ← sumN_mul]
    refine sumN_congr _ fun k hk => ?_
    rw [show l + 1 - k = (l - k) + 1 by omega, Nat.pow_succ, ← Nat.mul_assoc (p ^ k), Nat.mul_comm _ r, ← Nat.mul_assoc, Nat.mul_comm _ r, Nat.mul_assoc]
  have h3 : sumN (fun k => later b k * (p ^ k * r ^ (l + 1 - k))) (l + 1 + 1) = p * sumN (fun k => b k * (p ^ k * r ^ (l - k))) (l + 1) := by
    rw [sumN_first, ← sumN_mul]
    have h0 : later b 0 = 0 := by simp [later]
    rw [h0, Nat.zero_mul, Nat.zero_add]
    refine sumN_congr _ fun k hk => ?_
    have h4 : later b (k + 1) = b k := by simp [later]
    rw [h4, Nat.add_sub_add_right, Nat.pow_succ, Nat.mul_comm (p ^ k) p, Nat.mul_assoc p, ← Nat.mul_assoc (b k), Nat.mul_comm (b k) p, Nat.mul_assoc]
  rw [h1, h2, h3]
theorem pow_bound {p r l k m : Nat} (h : p + r ≤ m) (hk : k ≤ l) : p ^ k * r ^ (l - k) ≤ m ^ l := by
  have h1 : p ^ k ≤ m ^ k := Nat.pow_le_pow_left (by omega) k
  have h2 : r ^ (l - k) ≤ m ^ (l - k) := Nat.pow_le_pow_left (by omega) (l - k)
  have h3 := Nat.mul_le_mul h1 h2
  rw [← Nat.pow_add, show k + (l - k) = l by omega] at h3
  exact h3
/-- The first j of the sums. -/
def wpart (c : Nat → Nat) (l p r : Nat) (j : Nat) : Nat := sumN (fun k => c k * (p ^ k * r ^ (l - k))) j
theorem wpart_le {c : Nat → Nat} {l p r : Nat} (hl : l ≤ 9) (hp : p + r ≤ 5) (hc : ∀ k, k ≤ l → c k ≤ 1048576) : ∀ j, j ≤ l + 1 → wpart c l p r j ≤ j * 2048000000000
  | 0, _ => by simp [wpart, sumN]
  | j + 1, hj => by
    have h1 := wpart_le hl hp hc j (by omega)
    have h2 := Nat.mul_le_mul (hc j (by omega)) (pow_bound hp (show j ≤ l by omega))
    have h3 : 5 ^ l ≤ 5 ^ 9 := Nat.pow_le_pow_right (by omega) hl
    have h4 : 1048576 * 5 ^ l ≤ 1048576 * 5 ^ 9 := Nat.mul_le_mul_left _ h3
    have h5 : 1048576 * 5 ^ 9 = 2048000000000 := by decide
    unfold wpart at h1 ⊢
    rw [sumN]
    omega

/-- The ways of joined nodes and of a whole net are weighed choices. -/
theorem join_wsum (es : List (Int × Int)) (a b p r : Nat) : wsum (joinC es a b) es.length p r = wts (joinQ a b) p r (endsL es) (fun x => x) := by
  rw [wts_ways, endsL_length]; rfl
theorem whole_wsum (n : Int) (es : List (Int × Int)) (p r : Nat) : wsum (wholeC n es) es.length p r = wts (wholeA n.toNat) p r (endsL es) (fun x => x) := by
  rw [wts_ways, endsL_length]; rfl
theorem joinW_more (es : List (Int × Int)) (a b p r : Nat) : wsum (joinC es a b) es.length p (r + 1) ≤ wsum (joinC es a b) es.length (p + 1) r := by
  rw [join_wsum, join_wsum]; exact wts_part (joinQ_blind a b) (joinQ_up a b) p r _ _
theorem joinW_all (es : List (Int × Int)) (a b p r : Nat) : wsum (joinC es a b) es.length p r ≤ (p + r) ^ es.length := by
  rw [join_wsum]
  have := wts_all (joinQ a b) p r (endsL es) (fun x => x)
  rwa [endsL_length] at this
theorem wholeW_all (n : Int) (es : List (Int × Int)) (p r : Nat) : wsum (wholeC n es) es.length p r ≤ (p + r) ^ es.length := by
  rw [whole_wsum]
  have := wts_all (wholeA n.toNat) p r (endsL es) (fun x => x)
  rwa [endsL_length] at this
theorem wholeW_more (n : Int) (es : List (Int × Int)) (p r : Nat) : wsum (wholeC n es) es.length p (r + 1) ≤ wsum (wholeC n es) es.length (p + 1) r := by
  rw [whole_wsum, whole_wsum]; exact wts_part (wholeA_blind n.toNat) (wholeA_up n.toNat) p r _ _
/-- WholeWays: without the edge times the parts that are left, and with its ends made one times the parts, where no other edge has its ends. -/
theorem wholeW_split {n : Int} {es : List (Int × Int)} {at_ : Nat} (hn : netOkB n es = true) (h3 : 3 ≤ n) (hat : at_ < es.length) (h0 : mL n es at_ = 0) (p r : Nat) :
    wsum (wholeC n es) es.length p r = r * wsum (wholeC n (wE n es at_)) (wE n es at_).length p r + p * wsum (wholeC (n - 1) (mE n es at_)) (mE n es at_).length p r := by
  obtain ⟨le, je, c0, f1, f2, f3, f4, f5, f6, f7, hnl, hll, hnj, hlj, hsp⟩ := split_facts hn h3 hat
  have hc0 : c0 = 0 := by rw [f6] at h0; omega
  subst hc0
  rw [f1, f4, ← hll, show je.length = le.length by omega]
  have hs : ∀ k, wholeC n es k = wholeC n le k + later (wholeC (n - 1) je) k := hsp
  rw [wsum_congr (fun k _ => hs k)]
  exact wsum_split (wholeC_more (by omega)) p r
end Go.Proofs.Ytdacfeebidhgnaa
