/- Boards of the reference: cells that touch, what is reached, sides. -/
import Derived.Test.YtcmomghlepmogabDoorBits7
import Derived.Test.YtcmomghlepmogabDoorRow
import Derived.Test.YtcmomghlepmogabDoorClass
import Derived.Deep.RegionHeld3
namespace Go.Proofs.YtcmomghlepmogabDoor
open Go.RowKit
set_option maxRecDepth 100000

def boardB (c r : Int) : Bool := (decide (1 ≤ c) && decide (c ≤ 4)) && (decide (1 ≤ r) && decide (r ≤ 3))
theorem boardB_iff {c r : Int} : boardB c r = true ↔ (1 ≤ c ∧ c ≤ 4) ∧ 1 ≤ r ∧ r ≤ 3 := by simp [boardB]
theorem board_nat {c r : Int} (h : boardB c r = true) : ∃ C R : Nat, c = C ∧ r = R ∧ (1 ≤ C ∧ C ≤ 4) ∧ 1 ≤ R ∧ R ≤ 3 := by
  obtain ⟨h1, h2⟩ := boardB_iff.1 h
  exact ⟨c.toNat, r.toNat, by omega, by omega, by omega, by omega⟩
theorem specBoardOk_any (c r : Int) (w : World) : Calls Tryd.prog 18 #[.int .i64 c, .int .i64 r] w fun e w' => e = .returned (.bool (boardB c r)) ∧ w = w' := by
  unfold boardB
  cases h : (decide (1 ≤ c) && decide (c ≤ 4)) with
  | false =>
    have H := Lib.hid h
    go_enter Tryd.func18, Tryd.ntmps18
    go_wp2_with fail
    refine (l1In_any _ _ _ _).mono ?_
    rintro e1 w1 ⟨rfl, rfl⟩
    rw [H.out]
    go_wp2_with fail
    go_returns
    exact ⟨rfl, rfl⟩
  | true =>
    have H := Lib.hid h
    clear h
    go_enter Tryd.func18, Tryd.ntmps18
    go_wp2_with fail
    refine (l1In_any _ _ _ _).mono ?_
    rintro e1 w1 ⟨rfl, rfl⟩
    rw [H.out]
    go_wp2_with fail
    refine (l1In_any _ _ _ _).mono ?_
    rintro e2 w2 ⟨rfl, rfl⟩
    go_wp2_with fail
    go_returns
    exact ⟨rfl, rfl⟩

theorem l7Touch_any (a b c : Nat) (hc : 1 ≤ c) (ha : a ≤ 4096) (hb : b ≤ 4096) (w : World) :
    Calls Tryd.prog 33 #[.int .i64 a, .int .i64 b, .int .i64 c] w fun e w' => e = .returned (.bool (touchN c a b)) ∧ Below w.heap.size w w' := by
  have t1 : (b : Int).tmod (c : Int) = ((b % c : Nat) : Int) := by rw [Int.natCast_emod, Int.tmod_eq_emod_of_nonneg (by omega)]
  have t2 : (a : Int).tmod (c : Int) = ((a % c : Nat) : Int) := by rw [Int.natCast_emod, Int.tmod_eq_emod_of_nonneg (by omega)]
  have t3 : (b : Int).tdiv (c : Int) = ((b / c : Nat) : Int) := by rw [Int.natCast_ediv, Int.tdiv_eq_ediv_of_nonneg (by omega)]
  have t4 : (a : Int).tdiv (c : Int) = ((a / c : Nat) : Int) := by rw [Int.natCast_ediv, Int.tdiv_eq_ediv_of_nonneg (by omega)]
  have b1 : b % c ≤ b := Nat.mod_le _ _
  have b2 : a % c ≤ a := Nat.mod_le _ _
  have b3 : b / c ≤ b := Nat.div_le_self _ _
  have b4 : a / c ≤ a := Nat.div_le_self _ _
  unfold touchN
  generalize b % c = X1 at *
  generalize a % c = X2 at *
  generalize b / c = Y1 at *
  generalize a / c = Y2 at *
  have u1 : IntKind.i64.wrap (Y1 : Int) = (Y1 : Int) := IntWalk.i64_in _ (by omega)
  have u2 : IntKind.i64.wrap (Y2 : Int) = (Y2 : Int) := IntWalk.i64_in _ (by omega)
  have u3 : IntKind.i64.wrap (X1 : Int) = (X1 : Int) := IntWalk.i64_in _ (by omega)
  have u4 : IntKind.i64.wrap (X2 : Int) = (X2 : Int) := IntWalk.i64_in _ (by omega)
  obtain ⟨x, hx⟩ : ∃ x, (X1 : Int) - (X2 : Int) = x := ⟨_, rfl⟩
  obtain ⟨y, hy⟩ : ∃ y, (Y1 : Int) - (Y2 : Int) = y := ⟨_, rfl⟩
  have wx : IntKind.i64.wrap ((X1 : Int) - (X2 : Int)) = x := (IntWalk.i64_in _ (by omega)).trans hx
  have wy : IntKind.i64.wrap ((Y1 : Int) - (Y2 : Int)) = y := (IntWalk.i64_in _ (by omega)).trans hy
  rw [hx, hy]
  have z0 : ((c : Int) == 0) = false := by rw [beq_eq_false_iff_ne]; omega
  have zm : ((c : Int) == -1) = false := by rw [beq_eq_false_iff_ne]; omega
  have z1 : ¬ (c : Int) = 0 := by omega
  clear hx hy b1 b2 b3 b4 ha hb hc
  go_enter Tryd.func33, Tryd.ntmps33
  go_wp2_with fail
  go_quiet (fail)
  go_wp2_with fail
  go_quiet (fail)
  go_wp2_with fail
  all_goals go_returns
  all_goals exact ⟨retB (by simp [touchZ, *]), belowN (Below.refl _ _) _⟩

/-- One walk over the cells: what has been reached before, and what now. -/
structure Grow7 (T : Nat → Nat → Bool) (n S F D0 D : Nat) (again : Bool) : Prop where
  sub : ∀ i, D.testBit i = true → S.testBit i = true
  start : ∀ i, S.testBit i = true → F.testBit i = true → D.testBit i = true
  least : ∀ E : Nat → Prop, (∀ i, S.testBit i = true → F.testBit i = true → E i) → (∀ a b, a < n → b < n → T a b = true → E a → S.testBit b = true → E b) → ∀ i, D.testBit i = true → E i
  lt : D < 2 ^ n
  more : if again = true then D0 < D else D = D0
def Done7 (T : Nat → Nat → Bool) (S D a b : Nat) : Prop := T a b = true → D.testBit a = true → S.testBit b = true → D.testBit b = true
theorem grow_bit {D n b : Nat} (hD : D < 2 ^ n) (hb : b < n) (h : D.testBit b = false) : D < D ||| 2 ^ b ∧ D ||| 2 ^ b < 2 ^ n ∧ ∀ i, (D ||| 2 ^ b).testBit i = true ↔ D.testBit i = true ∨ i = b := by
  have hbit : ∀ i, (D ||| 2 ^ b).testBit i = true ↔ D.testBit i = true ∨ i = b := fun i => by
    rw [Nat.testBit_or, Nat.testBit_two_pow, Bool.or_eq_true, decide_eq_true_eq]
    constructor
    · rintro (h | h)
      · exact .inl h
      · exact .inr h.symm
    · rintro (h | h)
      · exact .inl h
      · exact .inr h.symm
  refine ⟨?_, Nat.or_lt_two_pow hD (Nat.pow_lt_pow_right (by omega) hb), hbit⟩
  have h1 : D ≤ D ||| 2 ^ b := Nat.left_le_or
  refine Nat.lt_of_le_of_ne h1 fun e => ?_
  have := (hbit b).2 (.inr rfl)
  rw [← e, h] at this; cases this
theorem Grow7.hit {T : Nat → Nat → Bool} {n S F D0 D : Nat} {again : Bool} (h : Grow7 T n S F D0 D again) {a b : Nat} (ha : a < n) (hb : b < n) (ht : T a b = true) (h1 : D.testBit a = true) (h2 : S.testBit b = true) (h3 : D.testBit b = false) : Grow7 T n S F D0 (D ||| 2 ^ b) true := by
  obtain ⟨g1, g2, g3⟩ := grow_bit h.lt hb h3
  refine ⟨fun i hi => ?_, fun i k1 k2 => (g3 i).2 (.inl (h.start i k1 k2)), fun E e1 e2 i hi => ?_, g2, ?_⟩
  · rcases (g3 i).1 hi with hi | rfl
    · exact h.sub i hi
    · exact h2
  · rcases (g3 i).1 hi with hi | rfl
    · exact h.least E e1 e2 i hi
    · exact e2 a i ha hb ht (h.least E e1 e2 a h1) h2
  · rw [if_pos rfl]
    have := h.more
    cases again
    · rw [if_neg (by simp)] at this; omega
    · rw [if_pos rfl] at this; omega
theorem Grow7.next {T : Nat → Nat → Bool} {n S F D0 D : Nat} {again : Bool} (h : Grow7 T n S F D0 D again) : Grow7 T n S F D D false := ⟨h.sub, h.start, h.least, h.lt, by simp⟩
theorem Grow7.reach {T : Nat → Nat → Bool} {n S F D0 D : Nat} {again : Bool} (h : Grow7 T n S F D0 D again) (hd : ∀ a b, a < n → b < n → Done7 T S D a b) : Reach T n S F D := ⟨h.sub, h.start, fun a b ha hb => hd a b ha hb, h.least⟩
theorem Grow7.skip {T : Nat → Nat → Bool} {n S F D0 D : Nat} {again : Bool} (h : Grow7 T n S F D0 D again) {a b : Nat} (hno : D.testBit a = false ∨ S.testBit b = false ∨ D.testBit b = true ∨ T a b = false) : again = false → Done7 T S D0 a b := by
  intro hg ht h1 h2
  have e := h.more
  rw [hg, if_neg (by simp)] at e
  rw [← e] at h1 ⊢
  rcases hno with k | k | k | k
  · rw [k] at h1; cases h1
  · rw [k] at h2; cases h2
  · exact k
  · rw [k] at ht; cases ht
theorem Grow7.done {T : Nat → Nat → Bool} {n S F D0 D : Nat} (h : Grow7 T n S F D0 D false) : D = D0 := by have := h.more; rwa [if_neg (by simp)] at this
theorem Grow7.grew {T : Nat → Nat → Bool} {n S F D0 D : Nat} (h : Grow7 T n S F D0 D true) : D0 < D := by have := h.more; rwa [if_pos rfl] at this
def oneB : Value → Nat
  | .bool true => 1
  | _ => 0
theorem tm1 {x k : Nat} (h : x.testBit k = true) : ((x : Int) / 2 ^ k).tmod 2 = 1 := by rw [bit_tmod, if_pos h]
theorem tm0 {x k : Nat} (h : x.testBit k = false) : ((x : Int) / 2 ^ k).tmod 2 = 0 := by rw [bit_tmod, if_neg (by rw [h]; simp)]

set_option maxHeartbeats 4000000 in
theorem l7Reached_any (S F c r : Nat) (hc : 1 ≤ c ∧ c ≤ 4) (hr : 1 ≤ r ∧ r ≤ 3) (hS : S < 2 ^ (c * r)) (hF : F < 2 ^ 12) (w : World) :
    Calls Tryd.prog 40 #[.int .i64 S, .int .i64 F, .int .i64 c, .int .i64 r] w fun e w' => ∃ D : Nat, Reach (touchN c) (c * r) S F D ∧ e = .returned (.int .i64 (D : Nat)) ∧ Below w.heap.size w w' := by
  obtain ⟨n, hn⟩ : ∃ n, c * r = n := ⟨_, rfl⟩
  have hn12 : n ≤ 12 := by rw [← hn]; exact Nat.mul_le_mul hc.2 hr.2
  have wn : IntKind.i64.wrap ((c : Int) * (r : Int)) = (n : Int) := by rw [← Int.natCast_mul, hn]; exact IntWalk.i64_in _ (by omega)
  rw [hn] at hS ⊢
  have h12 : 2 ^ n ≤ 2 ^ 12 := Nat.pow_le_pow_right (by omega) hn12
  have hS12 : S < 4096 := Nat.lt_of_lt_of_le hS h12
  have wand : Go.bits .and .i64 (S : Int) (F : Int) = ((S &&& F : Nat) : Int) := and_nat (by omega) (by omega)
  have G0 : Grow7 (touchN c) n S F (S &&& F) (S &&& F) false := ⟨fun i hi => by rw [Nat.testBit_and, Bool.and_eq_true] at hi; exact hi.1, fun i h1 h2 => by rw [Nat.testBit_and, h1, h2]; rfl,
    fun E e1 _ i hi => by rw [Nat.testBit_and, Bool.and_eq_true] at hi; exact e1 i hi.1 hi.2, Nat.lt_of_le_of_lt Nat.and_le_left hS, by simp⟩
  obtain ⟨P, hP⟩ : ∃ P, 2 ^ n = P := ⟨_, rfl⟩
  have HP := Lib.hid hP
  rw [hP] at h12
  have hP4 : P ≤ 4096 := h12
  have HT : Hid (∀ a b (u : World), a < n → b < n → Calls Tryd.prog 33 #[.int .i64 (a : Nat), .int .i64 (b : Nat), .int .i64 c] u fun e w' => e = .returned (.bool (touchN c a b)) ∧ Below u.heap.size u w') :=
    fun a b u ha hb => l7Touch_any a b c hc.1 (by omega) (by omega) u
  clear hP hn hS hc hr hF
  go_enter Tryd.func40, Tryd.ntmps40
  go_wp2_with fail
  go_loopw [9, 10] (fun d g wr => ∃ (D : Nat) (again : Bool), d = .int .i64 (D : Nat) ∧ g = .bool again ∧ Grow7 (touchN c) n S F D D false ∧ (again = false → ∀ a b, a < n → b < n → Done7 (touchN c) S D a b) ∧ Below w.heap.size w wr) (fun d g _ => 2 * (P - (intOf d).toNat) + oneB g)
  case atStart => exact ⟨_, true, rfl, rfl, G0, by simp, Below.refl _ _⟩
  case round =>
    clear G0 wand
    obtain ⟨D, again, rfl, rfl, G, hcl, hb⟩ := hrel
    cases again with
    | false =>
      go_wp2_with fail
      go_returns
      exact ⟨D, G.reach (hcl (by simp)), rfl, hb⟩
    | true =>
      clear hcl
      have hDP := G.lt
      rw [HP.out] at hDP
      go_wp2_with fail
      go_loopw [9, 10, 11] (fun d g a wr => ∃ (D' : Nat) (g' : Bool) (k : Nat), k ≤ n ∧ a = .int .i64 (k : Nat) ∧ d = .int .i64 (D' : Nat) ∧ g = .bool g' ∧ Grow7 (touchN c) n S F D D' g' ∧ (g' = false → ∀ a b, a < k → b < n → Done7 (touchN c) S D a b) ∧ Below w.heap.size w wr) (fun _ _ a _ => n - (intOf a).toNat)
      case atStart => exact ⟨D, false, 0, by omega, rfl, rfl, rfl, G, fun _ a b h => by omega, hb⟩
      case round =>
        clear hb
        obtain ⟨D', g', k, hk, rfl, rfl, rfl, G', hdn, hb⟩ := hrel
        by_cases hlt : k < n
        · go_wp2_with fail
          go_loopw [9, 10, 12] (fun d g b wr => ∃ (D2 : Nat) (g2 : Bool) (j : Nat), j ≤ n ∧ b = .int .i64 (j : Nat) ∧ d = .int .i64 (D2 : Nat) ∧ g = .bool g2 ∧ Grow7 (touchN c) n S F D D2 g2 ∧ (g2 = false → (∀ a b, a < k → b < n → Done7 (touchN c) S D a b) ∧ ∀ b, b < j → Done7 (touchN c) S D k b) ∧ Below w.heap.size w wr) (fun _ _ b _ => n - (intOf b).toNat)
          case atStart => exact ⟨D', g', 0, by omega, rfl, rfl, rfl, G', fun h => ⟨hdn h, fun b h => by omega⟩, hb⟩
          case round =>
            clear hb G' hdn
            obtain ⟨D2, g2, j, hj, rfl, rfl, rfl, G2, hdn, hb⟩ := hrel
            by_cases hlt2 : j < n
            · have HTT := HT.out k j wr hlt hlt2
              have hd2 := G2.lt
              rw [HP.out] at hd2
              have HG := Lib.hid G2
              have HDN := Lib.hid hdn
              have skip : (D2.testBit k = false ∨ S.testBit j = false ∨ D2.testBit j = true ∨ touchN c k j = false) → Hid (g2 = false → (∀ a b, a < k → b < n → Done7 (touchN c) S D a b) ∧ ∀ b, b < j + 1 → Done7 (touchN c) S D k b) := fun hno hg => by
                refine ⟨(HDN.out hg).1, fun b hb => ?_⟩
                by_cases e : b = j
                · subst e; exact HG.out.skip hno hg
                · exact (HDN.out hg).2 b (by omega)
              clear hdn G2
              cases hk1 : D2.testBit k with
              | false =>
                have HS := skip (.inl hk1)
                have q1 := tm0 hk1
                clear skip hk1 HTT
                go_wp2_with fail
                go_roundw
                case rel => exact ⟨D2, g2, j + 1, by omega, by go_num, rfl, rfl, HG.out, HS.out, hb⟩
                case measure => simp [intOf]; omega
              | true =>
                have q1 := tm1 hk1
                cases hk2 : S.testBit j with
                | false =>
                  have HS := skip (.inr (.inl hk2))
                  have q2 := tm0 hk2
                  clear skip hk1 hk2 HTT
                  go_wp2_with fail
                  go_roundw
                  case rel => exact ⟨D2, g2, j + 1, by omega, by go_num, rfl, rfl, HG.out, HS.out, hb⟩
                  case measure => simp [intOf]; omega
                | true =>
                  have q2 := tm1 hk2
                  cases hk3 : D2.testBit j with
                  | true =>
                    have HS := skip (.inr (.inr (.inl hk3)))
                    have q3 := tm1 hk3
                    clear skip hk1 hk2 hk3 HTT
                    go_wp2_with fail
                    go_roundw
                    case rel => exact ⟨D2, g2, j + 1, by omega, by go_num, rfl, rfl, HG.out, HS.out, hb⟩
                    case measure => simp [intOf]; omega
                  | false =>
                    have q3 := tm0 hk3
                    cases ht : touchN c k j with
                    | false =>
                      have HS := skip (.inr (.inr (.inr ht)))
                      rw [ht] at HTT
                      clear skip hk1 hk2 hk3 ht
                      go_wp2_with fail
                      refine HTT.mono ?_
                      rintro e1 w1 ⟨rfl, hb1⟩
                      have hb2 := hb.trans (hb1.mono hb.size)
                      go_wp2_with fail
                      go_roundw
                      case rel => exact ⟨D2, g2, j + 1, by omega, by go_num, rfl, rfl, HG.out, HS.out, hb2⟩
                      case measure => simp [intOf]; omega
                    | true =>
                      rw [ht] at HTT
                      have HH := Lib.hid (HG.out.hit hlt hlt2 ht hk1 hk2 hk3)
                      clear skip hk1 hk2 hk3 ht
                      obtain ⟨Q, hQ, p1, p2, hp3, hp4⟩ := pow_named12 (show j ≤ 13 by omega)
                      rw [hQ] at HH
                      have hor := or_small (Nat.le_trans (Nat.le_of_lt hd2) (Nat.le_trans hP4 (by decide))) p2
                      generalize D2 ||| Q = D3 at *
                      clear hQ
                      go_wp2_with fail
                      refine HTT.mono ?_
                      rintro e1 w1 ⟨rfl, hb1⟩
                      have hb2 := hb.trans (hb1.mono hb.size)
                      go_wp2_with fail
                      go_roundw
                      case rel => exact ⟨D3, true, j + 1, by omega, by go_num, rfl, rfl, HH.out, by simp, hb2⟩
                      case measure => simp [intOf]; omega
            · obtain rfl : j = n := by omega
              go_wp2_with fail
              go_roundw
              case rel =>
                refine ⟨D2, g2, k + 1, by omega, by go_num, rfl, rfl, G2, fun hg a b ha hb' => ?_, hb⟩
                by_cases e : a = k
                · subst e; exact (hdn hg).2 b hb'
                · exact (hdn hg).1 a b (by omega) hb'
              case measure => simp [intOf]; omega
        · obtain rfl : k = n := by omega
          have hd := G'.lt
          rw [HP.out] at hd
          go_wp2_with fail
          go_roundw
          case rel =>
            refine ⟨D', g', rfl, rfl, G'.next, fun hg => ?_, hb⟩
            subst hg
            have := G'.done
            subst this
            exact hdn rfl
          case measure =>
            cases g' with
            | true => have g := G'.grew; simp [intOf, oneB]; exact Nat.sub_lt_sub_left hDP g
            | false => have := G'.done; subst this; simp [intOf, oneB]
end Go.Proofs.YtcmomghlepmogabDoor
