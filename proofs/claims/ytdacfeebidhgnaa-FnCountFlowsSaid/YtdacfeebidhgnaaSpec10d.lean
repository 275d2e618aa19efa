/- Chapter 10 of the reference: CountFlows. -/
import Derived.Test.YtdacfeebidhgnaaSpec10a
import Derived.Test.YtdacfeebidhgnaaSpec10c
import Derived.BigRegion
namespace Go.Proofs.Ytdacfeebidhgnaa
open Go.RowKit
set_option maxRecDepth 100000

/-- What flows at each node over the first k edges, by the number s. -/
def accK (c : Nat) (l : List (Nat × Nat)) (s : Nat) : Nat → Nat → Int
  | 0 => fun _ => 0
  | k + 1 => match l[k]? with | some e => addF (accK c l s k) e (s / c ^ k % c + 1) | none => accK c l s k
theorem accK_next {c : Nat} {l : List (Nat × Nat)} {s k : Nat} {e : Nat × Nat} (h : l[k]? = some e) : accK c l s (k + 1) = addF (accK c l s k) e (s / c ^ k % c + 1) := by simp only [accK, h]
theorem accK_drop (c : Nat) (l : List (Nat × Nat)) (s : Nat) : ∀ k, k ≤ l.length → accF c (l.drop k) (s / c ^ k) (accK c l s k) = accF c l s fun _ => 0
  | 0, _ => by simp [accK]
  | k + 1, h => by
    rw [← accK_drop c l s k (by omega)]
    have he : l[k]? = some l[k] := List.getElem?_eq_getElem (by omega)
    rw [accK_next he, List.drop_eq_getElem_cons (show k < l.length by omega)]
    simp only [accF]
    rw [Nat.pow_succ, Nat.div_div_eq_div_mul]
theorem accK_all (c : Nat) (l : List (Nat × Nat)) (s : Nat) : accF c l s (fun _ => 0) = accK c l s l.length := by
  rw [← accK_drop c l s l.length (Nat.le_refl _), List.drop_length]; rfl
def flowQ (m n : Nat) (l : List (Nat × Nat)) (s : Nat) : Bool := balB m n (fun x => x) (accK (m - 1) l s l.length)
theorem flowQ_iff {m n : Nat} {l : List (Nat × Nat)} {s : Nat} : flowQ m n l s = true ↔ ∀ v, 1 ≤ v → v ≤ n → accK (m - 1) l s l.length v % (m : Int) = 0 := by
  unfold flowQ
  rw [balB_iff]
  constructor
  · intro h v h1 h2; have := h v h1 h2; rwa [clsum_id ⟨h1, h2⟩] at this
  · intro h v h1 h2; rw [clsum_id ⟨h1, h2⟩]; exact h v h1 h2
def flowsI (n : Int) (es : List (Int × Int)) (x : Int) : Int := if flowOkB n es x = true then ((cP (flowQ x.toNat n.toNat (endsL es)) ((x.toNat - 1) ^ es.length) : Nat) : Int) else -1
theorem flowsI_ok {n : Int} {es : List (Int × Int)} {x : Int} (h : flowOkB n es x = true) : flowsI n es x = ((flowN x.toNat n.toNat (endsL es) (fun _ => 0) : Nat) : Int) := by
  unfold flowsI flowN cP
  rw [if_pos h, endsL_length]
  congr 2
  funext s
  unfold flowQ
  rw [accK_all]
theorem dig_small {c s k : Nat} (hc : 1 ≤ c) (hc3 : c ≤ 3) : s / c ^ k % c + 1 ≤ 3 := by
  have := Nat.mod_lt (s / c ^ k) (show c > 0 by omega)
  omega
theorem accK_bound {c : Nat} (hc : 1 ≤ c) (hc3 : c ≤ 3) (l : List (Nat × Nat)) (s v : Nat) : ∀ k : Nat, -(3 * (k : Int)) ≤ accK c l s k v ∧ accK c l s k v ≤ 3 * (k : Int)
  | 0 => by simp [accK]
  | k + 1 => by
    have h := accK_bound hc hc3 l s v k
    have hd := dig_small (s := s) (k := k) hc hc3
    cases he : l[k]? with
    | none => simp only [accK, he]; omega
    | some e =>
      rw [accK_next he]
      unfold addF
      split <;> split <;> omega
/-- The reference's numbers: never below 0. -/
def spK (M : Int) (c : Nat) (l : List (Nat × Nat)) (s : Nat) : Nat → Nat → Int
  | 0 => fun _ => 0
  | k + 1 => match l[k]? with | some e => fun v => addF (spK M c l s k) e (s / c ^ k % c + 1) v + if v = e.2 then M else 0 | none => spK M c l s k
theorem spK_next {M : Int} {c : Nat} {l : List (Nat × Nat)} {s k : Nat} {e : Nat × Nat} (h : l[k]? = some e) : spK M c l s (k + 1) = fun v => addF (spK M c l s k) e (s / c ^ k % c + 1) v + if v = e.2 then M else 0 := by simp only [spK, h]
theorem spK_acc (M : Int) (c : Nat) (l : List (Nat × Nat)) (s v : Nat) : ∀ k, ∃ j : Nat, spK M c l s k v = accK c l s k v + M * (j : Int)
  | 0 => ⟨0, by simp [spK, accK]⟩
  | k + 1 => by
    obtain ⟨j, hj⟩ := spK_acc M c l s v k
    cases he : l[k]? with
    | none => exact ⟨j, by simp only [spK, accK, he]; exact hj⟩
    | some e =>
      rw [accK_next he, spK_next he]
      by_cases hv : v = e.2
      · refine ⟨j + 1, ?_⟩
        rw [Int.natCast_add, Int.mul_add]
        unfold addF
        simp only [if_pos hv, hj]; omega
      · refine ⟨j, ?_⟩
        unfold addF
        simp only [if_neg hv, hj]; omega
theorem spK_bound {M : Int} (hM : 3 ≤ M) (hM2 : M ≤ 32) {c : Nat} (hc : 1 ≤ c) (hc3 : c ≤ 3) (l : List (Nat × Nat)) (s v : Nat) : ∀ k : Nat, 0 ≤ spK M c l s k v ∧ spK M c l s k v ≤ 40 * (k : Int)
  | 0 => by simp [spK]
  | k + 1 => by
    have h := spK_bound hM hM2 hc hc3 l s v k
    have hd := dig_small (s := s) (k := k) hc hc3
    cases he : l[k]? with
    | none => simp only [spK, he]; omega
    | some e =>
      rw [spK_next he]
      show 0 ≤ addF (spK M c l s k) e (s / c ^ k % c + 1) v + (if v = e.2 then M else 0) ∧ addF (spK M c l s k) e (s / c ^ k % c + 1) v + (if v = e.2 then M else 0) ≤ 40 * ((k + 1 : Nat) : Int)
      unfold addF
      split <;> split <;> omega
theorem spK_row {M : Int} {c : Nat} {l : List (Nat × Nat)} {s k a b n : Nat} (h : l[k]? = some (a, b)) (hab : a ≠ b) :
    rowL (updI (updI (spK M c l s k) a (spK M c l s k a + ((s / c ^ k % c + 1 : Nat) : Int))) b (spK M c l s k b + M - ((s / c ^ k % c + 1 : Nat) : Int))) n = rowL (spK M c l s (k + 1)) n := by
  refine rowL_congr fun v _ => ?_
  rw [spK_next h]
  show _ = addF (spK M c l s k) (a, b) (s / c ^ k % c + 1) v + (if v = b then M else 0)
  unfold updI addF
  by_cases h1 : v = b
  · subst h1; simp [Ne.symm hab]; omega
  · by_cases h2 : v = a
    · subst h2; simp [h1]
    · simp [h1, h2]
theorem spK_mod {m c : Nat} (l : List (Nat × Nat)) (s v k : Nat) (h0 : 0 ≤ spK ((m : Int) * 8) c l s k v) : (spK ((m : Int) * 8) c l s k v).tmod (m : Int) = accK c l s k v % (m : Int) := by
  obtain ⟨j, hj⟩ := spK_acc ((m : Int) * 8) c l s v k
  rw [Int.tmod_eq_emod_of_nonneg h0, hj, Int.mul_assoc, Int.add_mul_emod_self_left]
theorem all_below (n : Nat) (q : Nat → Bool) : ((List.range n).all fun i => q (i + 1)) = true ↔ ∀ v, 1 ≤ v → v ≤ n → q v = true := by
  rw [List.all_eq_true]
  constructor
  · intro h v h1 h2
    have := h (v - 1) (List.mem_range.2 (by omega))
    rwa [show v - 1 + 1 = v by omega] at this
  · intro h i hi
    have := List.mem_range.1 hi
    exact h (i + 1) (by omega) (by omega)
/-- All nodes up to k are even out. -/
def evenB (m : Nat) (f : Nat → Int) : Nat → Bool
  | 0 => true
  | k + 1 => evenB m f k && decide (f (k + 1) % (m : Int) = 0)
theorem evenB_iff (m : Nat) (f : Nat → Int) : ∀ k, evenB m f k = true ↔ ∀ v, 1 ≤ v → v ≤ k → f v % (m : Int) = 0
  | 0 => by simp only [evenB, true_iff]; intro v h1 h2; omega
  | k + 1 => by
    simp only [evenB, Bool.and_eq_true, evenB_iff m f k, decide_eq_true_eq]
    constructor
    · rintro ⟨h1, h2⟩ v h3 h4
      by_cases e : v = k + 1
      · rw [e]; exact h2
      · exact h1 v h3 (by omega)
    · intro h; exact ⟨fun v h1 h2 => h v h1 (by omega), h (k + 1) (by omega) (by omega)⟩
theorem evenB_flow (m n : Nat) (l : List (Nat × Nat)) (s : Nat) : evenB m (accK (m - 1) l s l.length) n = flowQ m n l s := by
  rw [Bool.eq_iff_iff, evenB_iff, flowQ_iff]
theorem x_wrap {d : Nat} (h : d + 1 ≤ 3) : IntKind.i64.wrap (1 + (d : Int)) = ((d + 1 : Nat) : Int) ∧ wrap64 (1 + (d : Int)) = ((d + 1 : Nat) : Int) := ⟨by rw [IntWalk.i64_in _ (by omega)]; omega, by unfold wrap64; omega⟩

theorem dig_walk2 {s Z K d : Nat} (hd : s / Z % K = d) (h1 : 1 ≤ Z) (h2 : s ≤ 4096) : ∃ p : Nat, wrap64 ((s : Int) / (Z : Int)) = (p : Int) ∧ (p : Int).tmod (K : Int) = (d : Int) := by
  obtain ⟨p, a, ⟨h3, h4⟩, h5, -⟩ := dig_walk s Z K
  rw [← hd, h4]
  exact ⟨p, h3 h1 h2, h5⟩

set_option maxHeartbeats 8000000 in
theorem specCountFlows_any (n x : Int) (A : Option Addr) (cap : Nat) (es : List (Int × Int)) (w : World) (hes : EdgesIn w w.heap.size A es) (hl : es.length ≤ 1048576) :
    Calls Try.prog 47 #[.agg #[.int .i64 n, .slice A es.length cap], .int .i64 x] w fun e w' => e = .returned (.int .i64 (flowsI n es x)) ∧ Below w.heap.size w w' := by
  have L0 := ArgNet.start (cap := cap) (n := n) 29 hes
  have HN : Hid (∀ u, ArgNet w u n A cap es → Calls Try.prog 52 #[.agg #[.int .i64 n, .slice A es.length cap]] u fun e w' => e = .returned (.bool (netOkB n es)) ∧ Below u.heap.size u w') := fun u h => specNetOk_any n A cap es u h.edges hl
  have HJ : Hid (∀ u, Calls Try.prog 79 #[.int .i64 x, .int .i64 1, .int .i64 4] u fun e w' => e = .returned (.bool (decide (1 ≤ x) && decide (x ≤ 4))) ∧ u = w') := fun u => l1In_any x 1 4 u
  obtain ⟨_, _, c0, c1, s0⟩ := id L0
  cases hn : netOkB n es with
  | false =>
    have HV : Hid (flowsI n es x = -1) := if_neg (by unfold flowOkB; rw [hn]; simp)
    rw [HV.out]
    rw [hn] at HN
    clear hes HJ
    go_enter Try.func47, Try.ntmps47
    go_wp2_with fail
    refine (HN.out _ L0).mono ?_
    rintro e1 w1 ⟨rfl, hb1⟩
    have L1 := L0.step hb1 L0.lt
    go_wp2_with fail
    go_returns
    exact ⟨by first | rfl | simp, L1.below⟩
  | true =>
    rw [hn] at HN
    cases h6l : decide (es.length ≤ 6) with
    | false =>
      have HV : Hid (flowsI n es x = -1) := if_neg (by unfold flowOkB; rw [hn, h6l]; simp)
      have hgt : (6 : Int) < (es.length : Int) := by have := of_decide_eq_false h6l; omega
      rw [HV.out]
      clear hes HJ h6l
      go_enter Try.func47, Try.ntmps47
      go_wp2_with fail
      refine (HN.out _ L0).mono ?_
      rintro e1 w1 ⟨rfl, hb1⟩
      have L1 := L0.step hb1 L0.lt
      clear c0 c1 s0
      obtain ⟨_, _, c0, c1, s0⟩ := id L1
      go_wp2_with fail
      go_returns
      exact ⟨by first | rfl | simp, L1.below⟩
    | true =>
      have h6l2 : es.length ≤ 6 := of_decide_eq_true h6l
      have hngt : ¬ (6 : Int) < (es.length : Int) := by omega
      cases hc : (decide (1 ≤ x) && decide (x ≤ 4)) with
      | false =>
        have HV : Hid (flowsI n es x = -1) := if_neg (by unfold flowOkB; rw [hn, h6l, hc]; simp)
        rw [HV.out]
        rw [hc] at HJ
        clear hes h6l
        go_enter Try.func47, Try.ntmps47
        go_wp2_with fail
        refine (HN.out _ L0).mono ?_
        rintro e1 w1 ⟨rfl, hb1⟩
        have L1 := L0.step hb1 L0.lt
        clear c0 c1 s0
        obtain ⟨_, _, c0, c1, s0⟩ := id L1
        go_wp2_with fail
        refine (HJ.out _).mono ?_
        rintro e2 w2 ⟨rfl, rfl⟩
        go_wp2_with fail
        go_returns
        exact ⟨by first | rfl | simp, L1.below⟩
      | true =>
        have hok : flowOkB n es x = true := by unfold flowOkB; rw [hn, h6l, hc]; rfl
        have h6 := (netOkB_iff.1 hn).1
        have HF : Hid (∀ e ∈ es, 1 ≤ e.1 ∧ e.1 < e.2 ∧ e.2 ≤ n) := (netOkB_iff.1 hn).2.2
        rw [hc] at HJ
        have hx4 : 1 ≤ x ∧ x ≤ 4 := by simpa using hc
        obtain ⟨m, rfl⟩ : ∃ m : Nat, n = m := ⟨n.toNat, by omega⟩
        obtain ⟨K, rfl⟩ : ∃ K : Nat, x = (K + 1 : Nat) := ⟨x.toNat - 1, by omega⟩
        have hK3 : K ≤ 3 := by omega
        have hm6 : m ≤ 6 := by omega
        have hm2 : 2 ≤ m := by omega
        obtain ⟨W, hW⟩ : ∃ W, K ^ es.length = W := ⟨_, rfl⟩
        have hW2 : W ≤ 4096 := by rw [← hW]; exact powN_le (by omega) h6l2
        have hW0 : ∀ s k, s < W → k < es.length → 1 ≤ K := fun s k h h2 => by
          rcases Nat.eq_zero_or_pos K with e | e
          · subst e; rw [Nat.zero_pow (by omega)] at hW; omega
          · exact e
        have HLL := Lib.hid (endsL_length es)
        obtain ⟨q, hq⟩ : ∃ q, flowQ (K + 1) m (endsL es) = q := ⟨_, rfl⟩
        have HQ : Hid (∀ s, evenB (K + 1) (accK K (endsL es) s es.length) m = q s) := fun s => by
          rw [← hq, ← evenB_flow, HLL.out]; rfl
        have HV : Hid (flowsI m es (K + 1 : Nat) = ((cP q W : Nat) : Int)) := by
          unfold Hid flowsI; rw [if_pos hok, Int.toNat_natCast, Int.toNat_natCast, Nat.add_sub_cancel, hW, hq]
        have HP : Hid (∀ u, Calls Try.prog 80 #[.int .i64 K, .int .i64 es.length] u fun e w' => e = .returned (.int .i64 (W : Nat)) ∧ u = w') := fun u => specPowN_is K es.length W hW (by omega) (by omega) u
        have HW0 := Lib.hid hW0
        have hwK : IntKind.i64.wrap (((K + 1 : Nat) : Int) - 1) = (K : Int) := by rw [IntWalk.i64_in _ (by omega)]; omega
        have hwK2 : IntKind.i64.wrap ((K : Int) + 1 - 1) = (K : Int) := by rw [IntWalk.i64_in _ (by omega)]; omega
        have hwm : IntKind.i64.wrap ((m : Int) + 1) = ((m + 1 : Nat) : Int) := by rw [IntWalk.i64_in _ (by omega)]; omega
        obtain ⟨i0, hi0, hz0, hz1, hz2⟩ := info_parts int_info
        rw [HV.out]
        clear hes hW hq hn hc hok hx4 hW0 h6 h6l HV
        go_enter Try.func47, Try.ntmps47
        go_wp2_with fail
        refine (HN.out _ L0).mono ?_
        rintro e1 w1 ⟨rfl, hb1⟩
        have L1 := L0.step hb1 L0.lt
        clear c0 c1 s0
        obtain ⟨_, _, c0, c1, s0⟩ := id L1
        go_wp2_with fail
        refine (HJ.out _).mono ?_
        rintro e2 w2 ⟨rfl, rfl⟩
        go_wp2_with fail
        go_loopw [5, 6] (fun v i wr => ∃ s : Nat, s ≤ W ∧ i = .int .i64 (s : Nat) ∧ v = .int .i64 (cP q s : Nat) ∧ ArgNet w wr m A cap es) (fun _ i _ => W - (intOf i).toNat)
        case atStart => exact ⟨0, by omega, rfl, rfl, L1⟩
        case round =>
          clear L1 L0 c0 c1 s0 hb1
          obtain ⟨s, hs, rfl, rfl, L1⟩ := hrel
          obtain ⟨_, _, c0, c1, s0⟩ := id L1
          by_cases hlt : s < W
          · have hz := cP_le q s
            obtain ⟨z, hzz⟩ : ∃ z, cP q s = z := ⟨_, rfl⟩
            have HZ := Lib.hid hzz
            rw [hzz] at hz ⊢
            clear hzz
            have hs4 : s < 4096 := by omega
            go_wp2_with fail
            refine (HP.out _).mono ?_
            rintro e3 w3 ⟨rfl, rfl⟩
            go_wp2_with (at_make; refine wpList_make_full _ rfl _ _ 33 rfl (w.heap.size + 1) 3 i0 _ 1 Try.underlying33 hi0 hz0 hz1 .i64 .i64 (m + 1) (m + 1) (m + 1) rfl rfl rfl rfl (by rw [hz2]; omega) (by simp [maxLen]; omega) (by omega) ?_; intro w4 hown4 hg4)
            have gge : w.heap.size + 1 ≤ wr.heap.size := by omega
            generalize hg : wr.heap.size = gb at *
            have O4 : OwnI w4 (w.heap.size + 1) (.slice (some ⟨gb, 0, none⟩) (m + 1) (m + 1)) (rowL (spK (((K + 1 : Nat) : Int) * 8) K (endsL es) s 0) (m + 1)) := by
              rw [show spK (((K + 1 : Nat) : Int) * 8) K (endsL es) s 0 = fun _ => 0 from rfl, ← rowL_zero]
              unfold OwnI; rw [List.length_replicate, ← madeCells_ints]; exact hown4
            have hb4 : Below (w.heap.size + 1) wr w4 := (Below.refl _ _).grown hg4 (by omega) (by simp)
            have L4 := L1.step hb4 (by omega)
            clear hown4 hg4 hb4 L1 c0 c1 s0
            obtain ⟨_, _, c0, c1, s0⟩ := id L4
            go_wp2_with fail
            go_loopw [8] (fun t wr => ∃ k : Nat, k ≤ es.length ∧ t = .int .i64 (k : Nat) ∧ OwnI wr (w.heap.size + 1) (.slice (some ⟨gb, 0, none⟩) (m + 1) (m + 1)) (rowL (spK (((K + 1 : Nat) : Int) * 8) K (endsL es) s k) (m + 1)) ∧ ArgNet w wr m A cap es) (fun t _ => es.length - (intOf t).toNat)
            case atStart => exact ⟨0, by omega, rfl, O4, L4⟩
            case round =>
              clear O4 L4 c0 c1 s0
              obtain ⟨k, hk, rfl, O, L⟩ := hrel
              obtain ⟨_, _, c0, c1, s0⟩ := id L
              by_cases hlk : k < es.length
              · obtain ⟨⟨a, b⟩, he⟩ : ∃ e, es[k]? = some e := ⟨_, List.getElem?_eq_getElem hlk⟩
                obtain ⟨g, off, rfl, hgb, g1, g2⟩ := L.edges k _ he
                have hfit := HF.out _ (List.mem_of_getElem? he)
                have hll := endsL_at he
                have HHE0 := Lib.hid he
                simp only at g1 g2 hfit
                obtain ⟨a, rfl⟩ : ∃ a' : Nat, a = (a' : Nat) := ⟨a.toNat, by omega⟩
                obtain ⟨b, rfl⟩ : ∃ b' : Nat, b = (b' : Nat) := ⟨b.toNat, by omega⟩
                simp only [endN, Int.toNat_natCast] at hll
                have HHE : Hid (es[k]? = some ((a : Int), (b : Int))) := HHE0.out
                clear HHE0
                have hK1 := HW0.out s k hlt hlk
                have hM3 : (3 : Int) ≤ ((K + 1 : Nat) : Int) * 8 := by omega
                have hM32 : ((K + 1 : Nat) : Int) * 8 ≤ 32 := by omega
                have hab : ¬ a = b := by omega
                have am : a < m + 1 := by omega
                have bm : b < m + 1 := by omega
                have HR := Lib.hid (spK_row (M := ((K + 1 : Nat) : Int) * 8) (c := K) (s := s) (n := m + 1) hll hab)
                have hba := spK_bound (M := ((K + 1 : Nat) : Int) * 8) hM3 hM32 hK1 hK3 (endsL es) s a k
                have hbb := spK_bound (M := ((K + 1 : Nat) : Int) * 8) hM3 hM32 hK1 hK3 (endsL es) s b k
                obtain ⟨p, hp⟩ : ∃ p, spK (((K + 1 : Nat) : Int) * 8) K (endsL es) s k = p := ⟨_, rfl⟩
                rw [hp] at HR hba hbb O
                obtain ⟨M8, hM8⟩ : ∃ M8 : Nat, ((K + 1 : Nat) : Int) * 8 = (M8 : Int) := ⟨(K + 1) * 8, by omega⟩
                rw [hM8] at HR
                have HM8 := Lib.hid hM8
                have hgl := L.edges
                obtain ⟨y1, y2⟩ := O.slot (k := a) am
                obtain ⟨y3, y4⟩ := O.slot (k := b) bm
                rw [rowL_getD p am] at y1
                rw [rowL_getD p bm] at y3
                have gne : g ≠ gb := by
                  obtain ⟨b', off', hA, hlt', -⟩ := L.at_ k _ he
                  have e1 : g = b' := by injection hA with hA; injection hA
                  have := O.ge gb rfl
                  omega
                obtain ⟨Z, hZ⟩ : ∃ Z, K ^ k = Z := ⟨_, rfl⟩
                have hZ1 : 1 ≤ Z := by rw [← hZ]; exact Nat.pow_pos hK1
                have HPk : Hid (∀ u, Calls Try.prog 80 #[.int .i64 K, .int .i64 k] u fun e w' => e = .returned (.int .i64 (Z : Nat)) ∧ u = w') := fun u => specPowN_is K k Z hZ (by omega) (by omega) u
                have hd := dig_small (c := K) (s := s) (k := k) hK1 hK3
                rw [hZ] at HR hd
                obtain ⟨d, hd0⟩ : ∃ d, s / Z % K = d := ⟨_, rfl⟩
                rw [hd0] at HR hd
                have HD0 := Lib.hid hd0
                clear hd0
                obtain ⟨hx1, hx2⟩ := x_wrap hd
                have HX2 := Lib.hid hx2
                clear hx2
                obtain ⟨D, hD⟩ : ∃ D, d + 1 = D := ⟨_, rfl⟩
                rw [hD] at hx1 HX2 HR hd
                have hD0 : 1 ≤ D := by omega
                clear hD
                have hs1 : IntKind.i64.wrap (p a + (D : Int)) = p a + (D : Int) := IntWalk.i64_in _ (by omega)
                have hs2 : IntKind.i64.wrap (((K : Int) + 1) * 8) = (M8 : Int) := by rw [IntWalk.i64_in _ (by omega)]; omega
                have hs3 : IntKind.i64.wrap (p b + (M8 : Int)) = p b + (M8 : Int) := IntWalk.i64_in _ (by omega)
                have hs4' : IntKind.i64.wrap (p b + (M8 : Int) - (D : Int)) = p b + (M8 : Int) - (D : Int) := IntWalk.i64_in _ (by omega)
                have hZ0 : ¬ (Z : Int) = 0 := by omega
                have hZ00 : ((Z : Int) == 0) = false := by rw [beq_eq_false_iff_ne]; exact hZ0
                have hK0 : ¬ (K : Int) = 0 := by omega
                have hK00 : ((K : Int) == 0) = false := by rw [beq_eq_false_iff_ne]; exact hK0
                have ia : (a : Int) < ((m + 1 : Nat) : Int) := by omega
                have ib : (b : Int) < ((m + 1 : Nat) : Int) := by omega
                have hs4096 : s ≤ 4096 := by omega
                obtain ⟨p1, hw1, ht1⟩ := dig_walk2 HD0.out hZ1 hs4096
                have hx2 := HX2.out
                have OO := Lib.hid O
                clear hZ hp hll he hgl O hfit hM8 hM3 hM32 hba hbb
                generalize hpa : p a = ya at *
                generalize hpb : p b = yb at *
                have HPB := Lib.hid hpb
                clear hpa hpb
                go_wp2_with fail
                refine (HPk.out _).mono ?_
                rintro e4 w4' ⟨rfl, rfl⟩
                go_wp2_with fail
                go_region
                go_wp2_with fail
                have O5 : OwnI (wr.setCell ⟨gb, a, none⟩ (.int .i64 (ya + (D : Int)))).drew (w.heap.size + 1) (.slice (some ⟨gb, 0, none⟩) (m + 1) (m + 1)) (rowL (updI p a (ya + (D : Int))) (m + 1)) := by
                  rw [← rowL_set]; exact (OO.out.store a _).drew
                have L5 : ArgNet w (wr.setCell ⟨gb, a, none⟩ (.int .i64 (ya + (D : Int)))).drew m (some ⟨g, off, none⟩) cap es := L.step ((Below.refl (w.heap.size + 1) _).setCell (by simpa using gge) _).drew (by omega)
                clear c0 c1 s0 g1 g2 y1 y2 y3 y4 L OO hgb
                generalize (wr.setCell ⟨gb, a, none⟩ (.int .i64 (ya + (D : Int)))).drew = W5 at *
                obtain ⟨_, _, c0, c1, s0⟩ := id L5
                obtain ⟨g', off', hA', hgb, g1, g2⟩ := L5.edges k _ HHE.out
                injection hA' with hA'; injection hA' with e1 e2; subst e1 e2
                simp only at g1 g2
                obtain ⟨y3, y4⟩ := O5.slot (k := b) bm
                rw [rowL_getD _ bm, show updI p a (ya + (D : Int)) b = p b from if_neg (fun e => hab e.symm), HPB.out] at y3
                have OO := Lib.hid O5
                clear O5
                go_region
                go_wp2_with fail
                go_roundw
                case rel =>
                  refine ⟨k + 1, by omega, by go_num, ?_, L5.step ((Below.refl (w.heap.size + 1) _).setCell (by simpa using gge) _).drew (by omega)⟩
                  rw [HM8.out, ← HR.out, ← rowL_set]
                  exact (OO.out.store b _).drew
                case measure => simp [intOf]; omega
              · obtain rfl : k = es.length := by omega
                have HM : Hid (∀ v, (spK (((K + 1 : Nat) : Int) * 8) K (endsL es) s es.length v).tmod ((K + 1 : Nat) : Int) = accK K (endsL es) s es.length v % ((K + 1 : Nat) : Int) ∨ es.length = 0) := fun v => by
                  by_cases h0 : es.length = 0
                  · exact .inr h0
                  · exact .inl (spK_mod (m := K + 1) (endsL es) s v es.length (spK_bound (by omega) (by omega) (HW0.out s 0 hlt (by omega)) hK3 (endsL es) s v es.length).1)
                have HM2 : Hid (∀ v, (spK (((K + 1 : Nat) : Int) * 8) K (endsL es) s es.length v).tmod ((K + 1 : Nat) : Int) = accK K (endsL es) s es.length v % ((K + 1 : Nat) : Int)) := fun v => by
                  rcases HM.out v with h | h
                  · exact h
                  · rw [h]; simp [spK, accK]
                obtain ⟨p, hp⟩ : ∃ p, spK (((K + 1 : Nat) : Int) * 8) K (endsL es) s es.length = p := ⟨_, rfl⟩
                rw [hp] at O HM2
                have HEV := Lib.hid (HQ.out s)
                obtain ⟨f, hf⟩ : ∃ f, accK K (endsL es) s es.length = f := ⟨_, rfl⟩
                rw [hf] at HM2 HEV
                clear hp HM hf
                have hMz : ¬ ((K + 1 : Nat) : Int) = 0 := by omega
                have hMz2 : (((K + 1 : Nat) : Int) == 0) = false := by rw [beq_eq_false_iff_ne]; omega
                have hMz3 : ¬ (K : Int) + 1 = 0 := by omega
                have hMz4 : ((K : Int) + 1 == 0) = false := by rw [beq_eq_false_iff_ne]; omega
                go_wp2_with fail
                go_loopw [10, 11] (fun fv t wr => ∃ v : Nat, v ≤ m ∧ t = .int .i64 (v + 1 : Nat) ∧ fv = .bool (evenB (K + 1) f v) ∧ OwnI wr (w.heap.size + 1) (.slice (some ⟨gb, 0, none⟩) (m + 1) (m + 1)) (rowL p (m + 1)) ∧ ArgNet w wr m A cap es) (fun _ t _ => m + 1 - (intOf t).toNat)
                case atStart => exact ⟨0, by omega, rfl, rfl, O, L⟩
                case round =>
                  clear O L c0 c1 s0
                  obtain ⟨v, hv, rfl, rfl, O, L⟩ := hrel
                  obtain ⟨_, _, c0, c1, s0⟩ := id L
                  by_cases hlv : v < m
                  · have iv : ((v : Int) + 1) ≤ (m : Int) := by omega
                    obtain ⟨y1, y2⟩ := O.slot (k := v + 1) (by omega)
                    rw [rowL_getD p (show v + 1 < m + 1 by omega)] at y1
                    have hmod := HM2.out (v + 1)
                    have hnx : Hid (evenB (K + 1) f (v + 1) = (evenB (K + 1) f v && decide (f (v + 1) % ((K + 1 : Nat) : Int) = 0))) := rfl
                    cases hE : evenB (K + 1) f v with
                    | false =>
                      rw [hE, Bool.false_and] at hnx
                      clear hE hmod y1 y2
                      go_wp2_with fail
                      go_roundw
                      case rel => exact ⟨v + 1, by omega, by go_num, by rw [hnx.out], O, L⟩
                      case measure => simp [intOf]; omega
                    | true =>
                      rw [hE, Bool.true_and] at hnx
                      by_cases hm0 : f (v + 1) % ((K + 1 : Nat) : Int) = 0
                      · rw [decide_eq_true hm0] at hnx
                        rw [hm0] at hmod
                        generalize p (v + 1) = y at *
                        clear hE hm0
                        go_wp2_with fail
                        go_roundw
                        case rel => exact ⟨v + 1, by omega, by go_num, by rw [hnx.out] <;> first | rfl | (simp; exact hmod), O, L⟩
                        case measure => simp [intOf]; omega
                      · rw [decide_eq_false hm0] at hnx
                        generalize p (v + 1) = y at *
                        generalize f (v + 1) % ((K + 1 : Nat) : Int) = r at *
                        clear hE
                        have hr2 : (r == 0) = false := beq_eq_false_iff_ne.2 hm0
                        go_wp2_with fail
                        go_roundw
                        case rel => exact ⟨v + 1, by omega, by go_num, by rw [hnx.out] <;> first | rfl | (simp; intro h; exact hm0 (hmod.symm.trans h)), O, L⟩
                        case measure => simp [intOf]; omega
                  · obtain rfl : v = m := by omega
                    have iv : ¬ ((v : Int) + 1) ≤ (v : Int) := by omega
                    cases hE : evenB (K + 1) f v with
                    | false =>
                      have hnx := Lib.hid (cP_miss (HEV.out.symm.trans hE))
                      clear hE
                      go_wp2_with fail
                      go_roundw
                      case rel => exact ⟨s + 1, by omega, by go_num, by rw [hnx.out, HZ.out], L⟩
                      case measure => simp [intOf]; omega
                    | true =>
                      have hnx := Lib.hid (cP_hit (HEV.out.symm.trans hE))
                      clear hE
                      go_wp2_with fail
                      go_roundw
                      case rel => exact ⟨s + 1, by omega, by go_num, by rw [hnx.out, HZ.out]; go_num, L⟩
                      case measure => simp [intOf]; omega
          · obtain rfl : s = W := by omega
            go_wp2_with fail
            refine (HP.out _).mono ?_
            rintro e3 w3 ⟨rfl, rfl⟩
            go_wp2_with fail
            go_returns
            exact ⟨rfl, L1.below⟩
end Go.Proofs.Ytdacfeebidhgnaa
