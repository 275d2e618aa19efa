/- Plain facts on boards and grids: in how many states something leads across, counted by the kernel. -/
import Derived.Test.YtcmomghlepmogaaGrid
import Derived.Test.YtcmomghlepmogaaBothL
namespace Go.Proofs.Ytcmomghlepmogaa
set_option maxRecDepth 100000

theorem pop_lt : ∀ l s, l ≤ 60 → s < 2 ^ l → pop s ≤ l
  | 0, s, _, h => by obtain rfl : s = 0 := by simp at h; omega
                     rw [pop_zero]; exact Nat.le_refl _
  | l + 1, s, hl, h => by
    have h60 : 2 ^ (l + 1) ≤ 2 ^ 60 := Nat.pow_le_pow_right (by omega) hl
    have h2 : s / 2 < 2 ^ l := by rw [Nat.pow_succ] at h; omega
    have := pop_lt l (s / 2) (by omega) h2
    rw [pop_step s (by omega)]
    omega
theorem pop_high : ∀ k s, k ≤ 60 → s < 2 ^ k → pop (s + 2 ^ k) = pop s + 1
  | 0, s, _, h => by
    obtain rfl : s = 0 := by simp at h; omega
    rw [Nat.pow_zero, Nat.zero_add, pop_zero, pop_step 1 (by omega), show 1 / 2 = 0 from rfl, pop_zero]
  | k + 1, s, hk, h => by
    have h60 : 2 ^ (k + 1) ≤ 2 ^ 60 := Nat.pow_le_pow_right (by omega) hk
    have e : 2 ^ (k + 1) = 2 * 2 ^ k := by rw [Nat.pow_succ, Nat.mul_comm]
    rw [e] at h h60 ⊢
    have := pop_high k (s / 2) (by omega) (by omega)
    rw [pop_step (s + 2 * 2 ^ k) (by omega), pop_step s (by omega), show (s + 2 * 2 ^ k) % 2 = s % 2 by omega, show (s + 2 * 2 ^ k) / 2 = s / 2 + 2 ^ k by omega, this]
    omega

theorem totN_congr {f g : Nat → Nat} : ∀ n, (∀ i, i < n → f i = g i) → totN f n = totN g n
  | 0, _ => rfl
  | n + 1, h => by rw [totN, totN, totN_congr n fun i hi => h i (by omega), h n (by omega)]
theorem totN_mul (c : Nat) (g : Nat → Nat) : ∀ n, totN (fun i => c * g i) n = c * totN g n
  | 0 => rfl
  | n + 1 => by rw [totN, totN_mul c g n, totN, Nat.mul_add]
/-- Counts by the number of bits, packed into one number. -/
def sumP (q : Nat → Bool) (B : Nat) : Nat → Nat → Nat → Nat
  | 0, b, x => if q b = true then x else 0
  | k + 1, b, x => sumP q B k b x + sumP q B k (b + 2 ^ k) (x * B)
theorem sumP_is (q : Nat → Bool) (B : Nat) : ∀ k b x, k ≤ 60 → sumP q B k b x = totN (fun t => if q (b + t) = true then x * B ^ pop t else 0) (2 ^ k)
  | 0, b, x, _ => by simp [sumP, totN, pop_zero]
  | k + 1, b, x, hk => by
    rw [sumP, sumP_is q B k _ _ (by omega), sumP_is q B k _ _ (by omega), show 2 ^ (k + 1) = 2 ^ k + 2 ^ k by rw [Nat.pow_succ]; omega, totN_add]
    congr 1
    refine totN_congr _ fun i hi => ?_
    rw [Nat.add_comm (2 ^ k) i, pop_high k i (by omega) hi, Nat.add_assoc, Nat.add_comm (2 ^ k) i, Nat.pow_succ, Nat.mul_assoc x B, Nat.mul_comm B]
theorem totN_one (c : Nat → Nat) (B p : Nat) : ∀ m, totN (fun k => (c k + if k = p then 1 else 0) * B ^ k) m = totN (fun k => c k * B ^ k) m + if p < m then B ^ p else 0
  | 0 => by simp [totN]
  | m + 1 => by
    rw [totN, totN_one c B p m, totN]
    by_cases h : m = p
    · subst h; rw [if_neg (by omega), if_pos rfl, if_pos (by omega), Nat.add_mul]; omega
    · rw [if_neg h]
      by_cases h2 : p < m
      · rw [if_pos h2, if_pos (by omega), Nat.add_zero]; omega
      · rw [if_neg h2, if_neg (by omega)]; simp only [Nat.add_zero]
theorem totN_pop (q : Nat → Bool) (B m : Nat) : ∀ s, (∀ t, t < s → pop t < m) → totN (fun t => if q t = true then B ^ pop t else 0) s = totN (fun k => cntS q s k * B ^ k) m
  | 0, _ => by
    rw [totN, totN_congr (g := fun k => 0 * k) m fun k _ => by simp [cntS], totN_mul, Nat.zero_mul]
  | s + 1, h => by
    rw [totN, totN_pop q B m s fun t ht => h t (by omega)]
    have hp := h s (by omega)
    by_cases hq : q s = true
    · rw [if_pos hq, totN_congr (f := fun k => cntS q (s + 1) k * B ^ k) (g := fun k => (cntS q s k + if k = pop s then 1 else 0) * B ^ k) m fun k _ => by
        rw [cntS_succ]
        by_cases e : k = pop s
        · rw [if_pos e, if_pos ⟨hq, e.symm⟩]
        · rw [if_neg e, if_neg (fun h => e h.2.symm)], totN_one, if_pos hp]
    · rw [if_neg hq, totN_congr (f := fun k => cntS q (s + 1) k * B ^ k) (g := fun k => cntS q s k * B ^ k) m fun k _ => by
        rw [cntS_succ, if_neg (fun h => hq h.1)]; rfl]
      rfl
theorem totN_low (c : Nat → Nat) {B : Nat} : ∀ m, (∀ k, k < m → c k < B) → totN (fun k => c k * B ^ k) m < B ^ m
  | 0, _ => by simp [totN]
  | m + 1, h => by
    have h1 := totN_low c m fun k hk => h k (by omega)
    have h2 := h m (by omega)
    have h3 : c m * B ^ m + B ^ m ≤ B ^ (m + 1) := by
      rw [Nat.pow_succ, Nat.mul_comm (B ^ m) B, ← Nat.succ_mul]
      exact Nat.mul_le_mul_right _ h2
    rw [totN]; omega
theorem digit (c : Nat → Nat) {B m k : Nat} (h : ∀ k, k < m → c k < B) (hk : k < m) : totN (fun k => c k * B ^ k) m / B ^ k % B = c k := by
  obtain ⟨j, rfl⟩ : ∃ j, m = k + (1 + j) := ⟨m - k - 1, by omega⟩
  have hlow := totN_low c k fun i hi => h i (by omega)
  have hck := h k (by omega)
  rw [totN_add, totN_add, totN_congr (f := fun i => c (k + (1 + i)) * B ^ (k + (1 + i))) (g := fun i => B ^ k * (B * (c (k + (1 + i)) * B ^ i))) j fun i _ => by
    rw [Nat.pow_add, Nat.pow_add, Nat.pow_one, ← Nat.mul_assoc, Nat.mul_comm (c _) (B ^ k), Nat.mul_assoc, ← Nat.mul_assoc (c _) B, Nat.mul_comm (c _) B, Nat.mul_assoc], totN_mul, totN_mul]
  simp only [totN, Nat.zero_add, Nat.add_zero]
  generalize totN (fun i => c (k + (1 + i)) * B ^ i) j = R
  generalize totN (fun k => c k * B ^ k) k = L at *
  have hB : 0 < B ^ k := by omega
  rw [Nat.mul_comm (c k), ← Nat.mul_add, Nat.add_comm L, Nat.mul_add_div hB, Nat.div_eq_of_lt hlow, Nat.add_zero, Nat.mul_comm B, Nat.add_mul_mod_self_right, Nat.mod_eq_of_lt hck]

def cntB (q : Nat → Bool) (s : Nat) : Nat := (List.range s).countP q
theorem cntB_succ (q : Nat → Bool) (s : Nat) : cntB q (s + 1) = cntB q s + if q s = true then 1 else 0 := by
  unfold cntB
  rw [List.range_succ, List.countP_append]
  congr 1
  by_cases h : q s = true <;> simp [h]
theorem cntB_le (q : Nat → Bool) (s : Nat) : cntB q s ≤ s := by
  have := List.countP_le_length (p := q) (l := List.range s)
  rwa [List.length_range] at this
theorem cntB_sum (q : Nat → Bool) : ∀ s, cntB q s = totN (fun t => if q t = true then 1 * 1 ^ pop t else 0) s
  | 0 => rfl
  | s + 1 => by rw [cntB_succ, cntB_sum q s, totN]; simp
theorem cntB_is (q : Nat → Bool) (k : Nat) (hk : k ≤ 60) : cntB q (2 ^ k) = sumP q 1 k 0 1 := by
  rw [cntB_sum, sumP_is q 1 k 0 1 hk]
  exact totN_congr _ fun i _ => by rw [Nat.zero_add]
theorem cntS_is (q : Nat → Bool) {E k : Nat} (hE : E ≤ 13) (hk : k < E + 1) : cntS q (2 ^ E) k = sumP q 65536 E 0 1 / 65536 ^ k % 65536 := by
  have h2 : 2 ^ E ≤ 2 ^ 13 := Nat.pow_le_pow_right (by omega) hE
  have hp : ∀ t, t < 2 ^ E → pop t < E + 1 := fun t ht => by have := pop_lt E t (by omega) ht; omega
  rw [sumP_is q 65536 E 0 1 (by omega), totN_congr (f := fun t => if q (0 + t) = true then 1 * 65536 ^ pop t else 0) (g := fun t => if q t = true then 65536 ^ pop t else 0) _ fun i _ => by rw [Nat.zero_add, Nat.one_mul], totN_pop q 65536 (E + 1) (2 ^ E) hp]
  exact (digit (fun k => cntS q (2 ^ E) k) (fun k _ => by have := cntS_le q (2 ^ E) k; omega) hk).symm

/-- In how many states dark cells lead across. -/
def tabD (c r : Nat) : Nat :=
  match c, r with
  | 1, 1 => 1
  | 1, 2 => 3
  | 1, 3 => 7
  | 2, 1 => 1
  | 2, 2 => 8
  | 2, 3 => 43
  | 3, 1 => 1
  | 3, 2 => 21
  | 3, 3 => 256
  | 4, 1 => 1
  | 4, 2 => 55
  | 4, 3 => 1509
  | _, _ => 0
theorem cnt_11 : sumP (darkN 1 1) 1 1 0 1 = 1 := by decide +kernel
theorem cnt_12 : sumP (darkN 1 2) 1 2 0 1 = 3 := by decide +kernel
theorem cnt_13 : sumP (darkN 1 3) 1 3 0 1 = 7 := by decide +kernel
theorem cnt_21 : sumP (darkN 2 1) 1 2 0 1 = 1 := by decide +kernel
theorem cnt_22 : sumP (darkN 2 2) 1 4 0 1 = 8 := by decide +kernel
theorem cnt_23 : sumP (darkN 2 3) 1 6 0 1 = 43 := by decide +kernel
theorem cnt_31 : sumP (darkN 3 1) 1 3 0 1 = 1 := by decide +kernel
theorem cnt_32 : sumP (darkN 3 2) 1 6 0 1 = 21 := by decide +kernel
theorem cnt_33 : sumP (darkN 3 3) 1 9 0 1 = 256 := by decide +kernel
theorem cnt_41 : sumP (darkN 4 1) 1 4 0 1 = 1 := by decide +kernel
theorem cnt_42 : sumP (darkN 4 2) 1 8 0 1 = 55 := by decide +kernel
theorem cnt_43 : sumP (darkN 4 3) 1 12 0 1 = 1509 := by decide +kernel
theorem dark_cnt {c r : Nat} (hc : 1 ≤ c ∧ c ≤ 4) (hr : 1 ≤ r ∧ r ≤ 3) : cntB (darkN c r) (2 ^ (c * r)) = tabD c r := by
  rw [cntB_is _ _ (show c * r ≤ 60 from Nat.le_trans (Nat.mul_le_mul hc.2 hr.2) (by omega))]
  rcases (show c = 1 ∨ c = 2 ∨ c = 3 ∨ c = 4 by omega) with rfl | rfl | rfl | rfl <;> rcases (show r = 1 ∨ r = 2 ∨ r = 3 by omega) with rfl | rfl | rfl
  · exact cnt_11
  · exact cnt_12
  · exact cnt_13
  · exact cnt_21
  · exact cnt_22
  · exact cnt_23
  · exact cnt_31
  · exact cnt_32
  · exact cnt_33
  · exact cnt_41
  · exact cnt_42
  · exact cnt_43
/-- In how many states, by the number of edges, some lead across. -/
def tabL (w h : Nat) : List Nat :=
  match w, h with
  | 2, 1 => [0, 1]
  | 2, 2 => [0, 2, 1]
  | 2, 3 => [0, 3, 3, 1]
  | 3, 1 => [0, 0, 1]
  | 3, 2 => [0, 0, 2, 8, 5, 1]
  | 3, 3 => [0, 0, 3, 22, 56, 54, 28, 8, 1]
  | 4, 1 => [0, 0, 0, 1]
  | 4, 2 => [0, 0, 0, 2, 14, 34, 25, 8, 1]
  | 4, 3 => [0, 0, 0, 3, 38, 209, 627, 1089, 1078, 677, 283, 78, 13, 1]
  | _, _ => []
theorem lead_21 : sumP (leadsN 2 1) 65536 1 0 1 = 65536 := by decide +kernel
theorem lead_22 : sumP (leadsN 2 2) 65536 2 0 1 = 4295098368 := by decide +kernel
theorem lead_23 : sumP (leadsN 2 3) 65536 3 0 1 = 281487861809152 := by decide +kernel
theorem lead_31 : sumP (leadsN 3 1) 65536 2 0 1 = 4294967296 := by decide +kernel
theorem lead_32 : sumP (leadsN 3 2) 65536 5 0 1 = 1209018055586806126084096 := by decide +kernel
theorem lead_33 : sumP (leadsN 3 3) 65536 8 0 1 = 340323907514260575511087354587174141952 := by decide +kernel
theorem lead_41 : sumP (leadsN 4 1) 65536 3 0 1 = 281474976710656 := by decide +kernel
theorem lead_42 : sumP (leadsN 4 2) 65536 8 0 1 = 340323907276551908677133168614827884544 := by decide +kernel
theorem lead_43_0 : sumP (leadsN 4 3) 65536 10 0 1 = 1461724660096139936554944956372690877090407383040 := by decide +kernel
theorem lead_43_1 : sumP (leadsN 4 3) 65536 10 (0 + 2 ^ 10) (1 * 65536) = 95795587324062668732037839365791733251452368012181504 := by decide +kernel
theorem lead_43_2 : sumP (leadsN 4 3) 65536 10 (0 + 2 ^ 11) (1 * 65536) = 95795587324062668747614967625883758930056637631692800 := by decide +kernel
theorem lead_43_3 : sumP (leadsN 4 3) 65536 10 ((0 + 2 ^ 11) + 2 ^ 10) ((1 * 65536) * 65536) = 6278059610869860269170620847324241636184407438459018412032 := by decide +kernel
theorem lead_43_4 : sumP (leadsN 4 3) 65536 10 (0 + 2 ^ 12) (1 * 65536) = 95795587324063009029981650878650753692036659593347072 := by decide +kernel
theorem lead_43_5 : sumP (leadsN 4 3) 65536 10 ((0 + 2 ^ 12) + 2 ^ 10) ((1 * 65536) * 65536) = 6278059610869860268830338480640988869189645458437056757760 := by decide +kernel
theorem lead_43_6 : sumP (leadsN 4 3) 65536 10 ((0 + 2 ^ 12) + 2 ^ 11) ((1 * 65536) * 65536) = 6278059610869860268830322903512728777163966854167437246464 := by decide +kernel
theorem lead_43_7 : sumP (leadsN 4 3) 65536 10 (((0 + 2 ^ 12) + 2 ^ 11) + 2 ^ 10) (((1 * 65536) * 65536) * 65536) = 411438914657970085893561046444063829038228835576625592348442624 := by decide +kernel
theorem sumP_part (q : Nat → Bool) (B k b x : Nat) : sumP q B (k + 1) b x = sumP q B k b x + sumP q B k (b + 2 ^ k) (x * B) := rfl
theorem lead_43 : sumP (leadsN 4 3) 65536 13 0 1 = 411457749124190919171216320375866319812793992160799411505463296 := by
  rw [sumP_part _ _ 12 0 1, sumP_part _ _ 11 0 1, sumP_part _ _ 11 (0 + 2 ^ 12) (1 * 65536), sumP_part _ _ 10 0 1, sumP_part _ _ 10 (0 + 2 ^ 11) (1 * 65536), sumP_part _ _ 10 (0 + 2 ^ 12) (1 * 65536), sumP_part _ _ 10 ((0 + 2 ^ 12) + 2 ^ 11) ((1 * 65536) * 65536),
    lead_43_0, lead_43_1, lead_43_2, lead_43_3, lead_43_4, lead_43_5, lead_43_6, lead_43_7]
theorem tab_row (q : Nat → Bool) (E N : Nat) (L : List Nat) (hE : E ≤ 13) (hN : sumP q 65536 E 0 1 = N) (hL : (List.range (E + 1)).map (fun k => N / 65536 ^ k % 65536) = L) : cntR q (2 ^ E) (E + 1) = L.map Int.ofNat := by
  rw [← hL, List.map_map]
  unfold cntR
  refine List.map_congr_left fun k hk => ?_
  have hk' : k < E + 1 := by simpa using hk
  rw [cntS_is q hE hk', hN]; rfl
/-- The counts that a loop over all states makes. -/
theorem leads_row {w h : Nat} (hw : 2 ≤ w ∧ w ≤ 4) (hh : 1 ≤ h ∧ h ≤ 3) : cntR (leadsN w h) (2 ^ gridE w h) (gridE w h + 1) = (tabL w h).map Int.ofNat := by
  rcases (show w = 2 ∨ w = 3 ∨ w = 4 by omega) with rfl | rfl | rfl <;> rcases (show h = 1 ∨ h = 2 ∨ h = 3 by omega) with rfl | rfl | rfl
  · exact tab_row _ _ _ _ (by decide) lead_21 (by decide +kernel)
  · exact tab_row _ _ _ _ (by decide) lead_22 (by decide +kernel)
  · exact tab_row _ _ _ _ (by decide) lead_23 (by decide +kernel)
  · exact tab_row _ _ _ _ (by decide) lead_31 (by decide +kernel)
  · exact tab_row _ _ _ _ (by decide) lead_32 (by decide +kernel)
  · exact tab_row _ _ _ _ (by decide) lead_33 (by decide +kernel)
  · exact tab_row _ _ _ _ (by decide) lead_41 (by decide +kernel)
  · exact tab_row _ _ _ _ (by decide) lead_42 (by decide +kernel)
  · exact tab_row _ _ _ _ (by decide) lead_43 (by decide +kernel)
end Go.Proofs.Ytcmomghlepmogaa
