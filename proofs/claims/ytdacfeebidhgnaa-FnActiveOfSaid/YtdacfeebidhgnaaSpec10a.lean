/- Chapter 10 of the reference: powers of any number, CountPainted. -/
import Derived.Test.YtdacfeebidhgnaaTutte
import Derived.Test.YtdacfeebidhgnaaSpec5
import Derived.Test.YtdacfeebidhgnaaCounts5
import Derived.Test.YtdacfeebidhgnaaSpec2
import Derived.Test.YtdacfeebidhgnaaMore2
import Derived.Test.YtdacfeebidhgnaaEd
namespace Go.Proofs.Ytdacfeebidhgnaa
open Go.RowKit
set_option maxRecDepth 100000

theorem mul_four {x y B : Int} (h1 : -4 ≤ x) (h2 : x ≤ 4) (h3 : -B ≤ y) (h4 : y ≤ B) : -(4 * B) ≤ x * y ∧ x * y ≤ 4 * B := by
  have : x = -4 ∨ x = -3 ∨ x = -2 ∨ x = -1 ∨ x = 0 ∨ x = 1 ∨ x = 2 ∨ x = 3 ∨ x = 4 := by omega
  rcases this with rfl | rfl | rfl | rfl | rfl | rfl | rfl | rfl | rfl <;> omega
theorem powI_four {x : Int} (h1 : -4 ≤ x) (h2 : x ≤ 4) : ∀ k : Nat, -(((4 ^ k : Nat)) : Int) ≤ x ^ k ∧ x ^ k ≤ ((4 ^ k : Nat) : Int)
  | 0 => by simp
  | k + 1 => by
    have h := powI_four h1 h2 k
    have := mul_four h1 h2 h.1 h.2
    rw [Int.pow_succ, Int.mul_comm, Nat.pow_succ]
    omega
theorem powI_bound {x : Int} (h1 : -4 ≤ x) (h2 : x ≤ 4) {k : Nat} (hk : k ≤ 9) : -262144 ≤ x ^ k ∧ x ^ k ≤ 262144 := by
  have h := powI_four h1 h2 k
  have : 4 ^ k ≤ 4 ^ 9 := Nat.pow_le_pow_right (by omega) hk
  have e : 4 ^ 9 = 262144 := by decide
  omega
theorem mul_wrap {x Y : Int} (h1 : -4 ≤ x) (h2 : x ≤ 4) (h3 : -262144 ≤ Y ∧ Y ≤ 262144) : IntKind.i64.wrap (Y * x) = Y * x ∧ wrap64 (Y * x) = Y * x := by
  have := mul_four h1 h2 h3.1 h3.2
  rw [Int.mul_comm x Y] at this
  generalize Y * x = z at *
  exact ⟨IntWalk.i64_in _ (by omega), by unfold wrap64; omega⟩

theorem mul_five {x y B : Int} (h1 : -5 ≤ x) (h2 : x ≤ 5) (h3 : -B ≤ y) (h4 : y ≤ B) : -(5 * B) ≤ x * y ∧ x * y ≤ 5 * B := by
  have : x = -5 ∨ x = -4 ∨ x = -3 ∨ x = -2 ∨ x = -1 ∨ x = 0 ∨ x = 1 ∨ x = 2 ∨ x = 3 ∨ x = 4 ∨ x = 5 := by omega
  rcases this with h | h | h | h | h | h | h | h | h | h | h <;> subst h <;> omega
theorem powI_five {x : Int} (h1 : -5 ≤ x) (h2 : x ≤ 5) : ∀ k : Nat, -(((5 ^ k : Nat)) : Int) ≤ x ^ k ∧ x ^ k ≤ ((5 ^ k : Nat) : Int)
  | 0 => by simp
  | k + 1 => by
    have h := powI_five h1 h2 k
    have := mul_five h1 h2 h.1 h.2
    rw [Int.pow_succ, Int.mul_comm, Nat.pow_succ]
    omega
theorem powF_bound {x : Int} (h1 : -5 ≤ x) (h2 : x ≤ 5) {k : Nat} (hk : k ≤ 9) : -1953125 ≤ x ^ k ∧ x ^ k ≤ 1953125 := by
  have h := powI_five h1 h2 k
  have : 5 ^ k ≤ 5 ^ 9 := Nat.pow_le_pow_right (by omega) hk
  have e : 5 ^ 9 = 1953125 := by decide
  omega
theorem mulF_wrap {x Y : Int} (h1 : -5 ≤ x) (h2 : x ≤ 5) (h3 : -1953125 ≤ Y ∧ Y ≤ 1953125) : IntKind.i64.wrap (Y * x) = Y * x ∧ wrap64 (Y * x) = Y * x := by
  have := mul_five h1 h2 h3.1 h3.2
  rw [Int.mul_comm x Y] at this
  generalize Y * x = z at *
  exact ⟨IntWalk.i64_in _ (by omega), by unfold wrap64; omega⟩

set_option maxHeartbeats 1000000 in
theorem specPowF_any (x : Int) (k : Nat) (h1 : -5 ≤ x) (h2 : x ≤ 5) (hk : k ≤ 9) (w : World) :
    Calls Try.prog 80 #[.int .i64 x, .int .i64 k] w fun e w' => e = .returned (.int .i64 (x ^ k)) ∧ w = w' := by
  obtain ⟨Z, hZ⟩ : ∃ Z, x ^ k = Z := ⟨_, rfl⟩
  have HZ := Lib.hid hZ
  rw [hZ]
  clear hZ
  go_enter Try.func80, Try.ntmps80
  go_wp2_with fail
  go_loopw [5, 6] (fun v i wr => ∃ (j : Nat) (Y : Int), j ≤ k ∧ i = .int .i64 j ∧ v = .int .i64 Y ∧ Hid (x ^ j = Y) ∧ (-1953125 ≤ Y ∧ Y ≤ 1953125) ∧ wr = w) (fun _ i _ => k - (intOf i).toNat)
  case atStart => exact ⟨0, 1, by omega, rfl, rfl, by simp [Hid], by omega, rfl⟩
  case round =>
    obtain ⟨j, Y, hj, rfl, rfl, HY, hY, rfl⟩ := hrel
    by_cases hlt : j < k
    · have hs : Hid (x ^ (j + 1) = Y * x) := by rw [Hid, Int.pow_succ, HY.out]
      have hb : -1953125 ≤ Y * x ∧ Y * x ≤ 1953125 := by rw [← hs.out]; exact powF_bound h1 h2 (by omega)
      obtain ⟨hw1, hw2⟩ := mulF_wrap h1 h2 hY
      go_wp2_with fail
      go_roundw
      case rel => exact ⟨j + 1, Y * x, by omega, by go_num, by first | rfl | (congr 1; done) | go_num, hs, hb, by first | rfl | trivial⟩
      case measure => simp [intOf]; omega
    · obtain rfl : j = k := by omega
      have : Y = Z := by rw [← HY.out, HZ.out]
      subst this
      go_wp2_with fail
      go_returns
      exact ⟨rfl, rfl⟩
theorem specPowF_is (x : Int) (k : Nat) (Z : Int) (h : x ^ k = Z) (h1 : -5 ≤ x) (h2 : x ≤ 5) (hk : k ≤ 9) (w : World) :
    Calls Try.prog 80 #[.int .i64 x, .int .i64 k] w fun e w' => e = .returned (.int .i64 Z) ∧ w = w' := h ▸ specPowF_any x k h1 h2 hk w
theorem specPowI_any (x : Int) (k : Nat) (h1 : -4 ≤ x) (h2 : x ≤ 4) (hk : k ≤ 9) (w : World) :
    Calls Try.prog 80 #[.int .i64 x, .int .i64 k] w fun e w' => e = .returned (.int .i64 (x ^ k)) ∧ w = w' := specPowF_any x k (by omega) (by omega) hk w
theorem specPowI_is (x : Int) (k : Nat) (Z : Int) (h : x ^ k = Z) (h1 : -4 ≤ x) (h2 : x ≤ 4) (hk : k ≤ 9) (w : World) :
    Calls Try.prog 80 #[.int .i64 x, .int .i64 k] w fun e w' => e = .returned (.int .i64 Z) ∧ w = w' := h ▸ specPowI_any x k h1 h2 hk w

/-- How many of the first s numbers meet q. -/
def cP (q : Nat → Bool) (s : Nat) : Nat := (List.range s).countP q
theorem cP_next (q : Nat → Bool) (s : Nat) : cP q (s + 1) = cP q s + if q s = true then 1 else 0 := by
  unfold cP
  rw [List.range_succ, List.countP_append, List.countP_cons, List.countP_nil, Nat.zero_add]
theorem cP_le (q : Nat → Bool) (s : Nat) : cP q s ≤ s := by
  have := List.countP_le_length (p := q) (l := List.range s)
  rwa [List.length_range] at this
theorem cP_hit {q : Nat → Bool} {s : Nat} (h : q s = true) : cP q (s + 1) = cP q s + 1 := by rw [cP_next, if_pos h]
theorem cP_miss {q : Nat → Bool} {s : Nat} (h : q s = false) : cP q (s + 1) = cP q s := by rw [cP_next, h]; rfl

def colOkB (n : Int) (es : List (Int × Int)) (c : Int) : Bool := netOkB n es && (decide (0 ≤ c) && decide (c ≤ 4))
/-- Both ends of an edge have different colours in the painting s. -/
def difB (c s : Nat) (e : Int × Int) : Bool := !decide (dig c s e.1.toNat = dig c s e.2.toNat)
def paintQ (es : List (Int × Int)) (c s : Nat) : Bool := es.all (difB c s)
def paintI (n : Int) (es : List (Int × Int)) (c : Int) : Int := if colOkB n es c = true then ((cP (paintQ es c.toNat) (c.toNat ^ n.toNat) : Nat) : Int) else -1
theorem paintQ_ends (es : List (Int × Int)) (c s : Nat) : paintQ es c s = (endsL es).all fun e => !decide (dig c s e.1 = dig c s e.2) := by
  unfold paintQ endsL
  rw [List.all_map]; rfl
theorem paintI_ok {n : Int} {es : List (Int × Int)} {c : Int} (h : colOkB n es c = true) : paintI n es c = ((paintN c.toNat n.toNat (endsL es) : Nat) : Int) := by
  unfold paintI paintN cP
  rw [if_pos h]
  congr 2
  funext s; exact paintQ_ends es _ s
theorem powN_le {c m : Nat} (hc : c ≤ 4) (hm : m ≤ 6) : c ^ m ≤ 4096 := by
  have h1 : c ^ m ≤ 4 ^ m := Nat.pow_le_pow_left hc m
  have h2 : 4 ^ m ≤ 4 ^ 6 := Nat.pow_le_pow_right (by omega) hm
  have : 4 ^ 6 = 4096 := by decide
  omega
theorem specPowN_is (c k Z : Nat) (h : c ^ k = Z) (hc : c ≤ 4) (hk : k ≤ 9) (w : World) :
    Calls Try.prog 80 #[.int .i64 c, .int .i64 k] w fun e w' => e = .returned (.int .i64 (Z : Nat)) ∧ w = w' :=
  specPower_is c k Z h (by omega) hk w
theorem dig_int (c s Z : Nat) : ((s : Int).tdiv (Z : Int)).tmod (c : Int) = ((s / Z % c : Nat) : Int) := by
  rw [Int.tdiv_eq_ediv_of_nonneg (by omega), Int.tmod_eq_emod_of_nonneg (Int.ediv_nonneg (by omega) (by omega))]
  rfl
/-- A digit, as the walk tells it. -/
theorem dig_walk (s X C : Nat) : ∃ p a : Nat, ((1 ≤ X → s ≤ 4096 → wrap64 ((s : Int) / (X : Int)) = (p : Int)) ∧ s / X % C = a) ∧ (p : Int).tmod (C : Int) = (a : Int) ∧ (1 ≤ C → a < C) :=
  ⟨s / X, s / X % C, ⟨fun h1 h2 => by
    have : s / X ≤ s := Nat.div_le_self _ _
    rw [← Int.natCast_ediv]
    generalize s / X = p at *
    unfold wrap64; omega, rfl⟩, by rw [Int.tmod_eq_emod_of_nonneg (Int.natCast_nonneg _)]; rfl, fun h => Nat.mod_lt _ (by omega)⟩
theorem all_take_next {q : Int × Int → Bool} {es : List (Int × Int)} {k : Nat} {e : Int × Int} (h : es[k]? = some e) : (es.take (k + 1)).all q = ((es.take k).all q && q e) := by
  obtain ⟨hk, rfl⟩ := List.getElem?_eq_some_iff.1 h
  rw [List.take_succ_eq_append_getElem hk, List.all_append]; simp

set_option maxHeartbeats 4000000 in
theorem specCountPainted_any (n c : Int) (A : Option Addr) (cap : Nat) (es : List (Int × Int)) (w : World) (hes : EdgesIn w w.heap.size A es) (hl : es.length ≤ 1048576) :
    Calls Try.prog 43 #[.agg #[.int .i64 n, .slice A es.length cap], .int .i64 c] w fun e w' => e = .returned (.int .i64 (paintI n es c)) ∧ Below w.heap.size w w' := by
  have L0 := ArgNet.start (cap := cap) (n := n) 29 hes
  have HN : Hid (∀ u, ArgNet w u n A cap es → Calls Try.prog 52 #[.agg #[.int .i64 n, .slice A es.length cap]] u fun e w' => e = .returned (.bool (netOkB n es)) ∧ Below u.heap.size u w') := fun u h => specNetOk_any n A cap es u h.edges hl
  have HJ : Hid (∀ u, Calls Try.prog 79 #[.int .i64 c, .int .i64 0, .int .i64 4] u fun e w' => e = .returned (.bool (decide (0 ≤ c) && decide (c ≤ 4))) ∧ u = w') := fun u => l1In_any c 0 4 u
  obtain ⟨_, _, c0, c1, s0⟩ := id L0
  cases hn : netOkB n es with
  | false =>
    have HV : Hid (paintI n es c = -1) := if_neg (by unfold colOkB; rw [hn]; simp)
    rw [HV.out]
    rw [hn] at HN
    clear hes HJ
    go_enter Try.func43, Try.ntmps43
    go_wp2_with fail
    refine (HN.out _ L0).mono ?_
    rintro e1 w1 ⟨rfl, hb1⟩
    have L1 := L0.step hb1 L0.lt
    go_wp2_with fail
    go_returns
    exact ⟨by first | rfl | simp, L1.below⟩
  | true =>
    rw [hn] at HN
    cases hc : (decide (0 ≤ c) && decide (c ≤ 4)) with
    | false =>
      have HV : Hid (paintI n es c = -1) := if_neg (by unfold colOkB; rw [hn, hc]; simp)
      rw [HV.out]
      rw [hc] at HJ
      clear hes
      go_enter Try.func43, Try.ntmps43
      go_wp2_with fail
      refine (HN.out _ L0).mono ?_
      rintro e1 w1 ⟨rfl, hb1⟩
      have L1 := L0.step hb1 L0.lt
      clear c0 c1 s0
      obtain ⟨_, _, c0, c1, s0⟩ := id L1
      go_wp2_with fail
      refine (HJ.out _).mono ?_
      rintro e2 w2 ⟨rfl, rfl⟩
      go_wp2_with fail
      go_returns
      exact ⟨by first | rfl | simp, L1.below⟩
    | true =>
      have hok : colOkB n es c = true := by unfold colOkB; rw [hn, hc]; rfl
      have h6 := (netOkB_iff.1 hn).1
      have h9 := (netOkB_iff.1 hn).2.1
      have HF : Hid (∀ e ∈ es, 1 ≤ e.1 ∧ e.1 < e.2 ∧ e.2 ≤ n) := (netOkB_iff.1 hn).2.2
      rw [hc] at HJ
      have hc4 : 0 ≤ c ∧ c ≤ 4 := by simpa using hc
      obtain ⟨m, rfl⟩ : ∃ m : Nat, n = m := ⟨n.toNat, by omega⟩
      obtain ⟨C, rfl⟩ : ∃ C : Nat, c = C := ⟨c.toNat, by omega⟩
      have hC : C ≤ 4 := by omega
      have hm6 : m ≤ 6 := by omega
      obtain ⟨W, hW⟩ : ∃ W, C ^ m = W := ⟨_, rfl⟩
      have hW2 : W ≤ 4096 := by rw [← hW]; exact powN_le hC hm6
      have hW0 : ∀ s, s < W → 1 ≤ C := fun s h => by
        rcases Nat.eq_zero_or_pos C with e | e
        · subst e; rw [Nat.zero_pow (by omega)] at hW; omega
        · exact e
      obtain ⟨q, hq⟩ : ∃ q, paintQ es C = q := ⟨_, rfl⟩
      have HQ : Hid (∀ s, (es.take es.length).all (difB C s) = q s) := fun s => by rw [← hq, List.take_length]; rfl
      have HV : Hid (paintI m es C = ((cP q W : Nat) : Int)) := by
        unfold Hid paintI; rw [if_pos hok, Int.toNat_natCast, Int.toNat_natCast, hW, hq]
      have HP : Hid (∀ u, Calls Try.prog 80 #[.int .i64 C, .int .i64 m] u fun e w' => e = .returned (.int .i64 (W : Nat)) ∧ u = w') := fun u => specPowN_is C m W hW hC (by omega) u
      have HW0 := Lib.hid hW0
      rw [HV.out]
      clear hes hW hq hn hc hok hc4 hW0 h6
      go_enter Try.func43, Try.ntmps43
      go_wp2_with fail
      refine (HN.out _ L0).mono ?_
      rintro e1 w1 ⟨rfl, hb1⟩
      have L1 := L0.step hb1 L0.lt
      clear c0 c1 s0
      obtain ⟨_, _, c0, c1, s0⟩ := id L1
      go_wp2_with fail
      refine (HJ.out _).mono ?_
      rintro e2 w2 ⟨rfl, rfl⟩
      go_wp2_with fail
      go_loopw [5, 6] (fun v i wr => ∃ s : Nat, s ≤ W ∧ i = .int .i64 (s : Nat) ∧ v = .int .i64 (cP q s : Nat) ∧ ArgNet w wr m A cap es) (fun _ i _ => W - (intOf i).toNat)
      case atStart => exact ⟨0, by omega, rfl, rfl, L1⟩
      case round =>
        clear L1 L0 c0 c1 s0 hb1
        obtain ⟨s, hs, rfl, rfl, L1⟩ := hrel
        obtain ⟨_, _, c0, c1, s0⟩ := id L1
        by_cases hlt : s < W
        · have hC1 := HW0.out s hlt
          have hz := cP_le q s
          obtain ⟨z, hzz⟩ : ∃ z, cP q s = z := ⟨_, rfl⟩
          have HZ := Lib.hid hzz
          rw [hzz] at hz ⊢
          clear hzz
          have hs4 : s < 4096 := by omega
          go_wp2_with fail
          refine (HP.out _).mono ?_
          rintro e3 w3 ⟨rfl, rfl⟩
          go_wp2_with fail
          go_loopw [7, 8] (fun f t wr => ∃ k : Nat, k ≤ es.length ∧ t = .int .i64 (k : Nat) ∧ f = .bool ((es.take k).all (difB C s)) ∧ ArgNet w wr m A cap es) (fun _ t _ => es.length - (intOf t).toNat)
          case atStart => exact ⟨0, by omega, rfl, rfl, L1⟩
          case round =>
            clear L1 c0 c1 s0
            obtain ⟨k, hk, rfl, rfl, L1⟩ := hrel
            obtain ⟨_, _, c0, c1, s0⟩ := id L1
            by_cases hlk : k < es.length
            · obtain ⟨⟨a, b⟩, he⟩ : ∃ e, es[k]? = some e := ⟨_, List.getElem?_eq_getElem hlk⟩
              obtain ⟨g, off, rfl, hgb, g1, g2⟩ := L1.edges k _ he
              have hfit := HF.out _ (List.mem_of_getElem? he)
              have HX := Lib.hid (all_take_next (q := difB C s) he)
              clear he
              simp only at g1 g2 hfit
              obtain ⟨a, rfl⟩ : ∃ a' : Nat, a = (a' + 1 : Nat) := ⟨(a - 1).toNat, by omega⟩
              obtain ⟨b, rfl⟩ : ∃ b' : Nat, b = (b' + 1 : Nat) := ⟨(b - 1).toNat, by omega⟩
              have hd : Hid (difB C s (((a + 1 : Nat) : Int), ((b + 1 : Nat) : Int)) = !decide (s / C ^ a % C = s / C ^ b % C)) := rfl
              have ha : a ≤ 5 := by omega
              have hb : b ≤ 5 := by omega
              have hp1 : 1 ≤ C ^ a := Nat.pow_pos (by omega)
              have hp2 : 1 ≤ C ^ b := Nat.pow_pos (by omega)
              obtain ⟨X, hX⟩ : ∃ X, C ^ a = X := ⟨_, rfl⟩
              obtain ⟨Y, hY⟩ : ∃ Y, C ^ b = Y := ⟨_, rfl⟩
              have H1 : Hid (∀ u, Calls Try.prog 80 #[.int .i64 C, .int .i64 a] u fun e w' => e = .returned (.int .i64 (X : Nat)) ∧ u = w') := fun u => specPowN_is C a X hX hC (by omega) u
              have H2 : Hid (∀ u, Calls Try.prog 80 #[.int .i64 C, .int .i64 b] u fun e w' => e = .returned (.int .i64 (Y : Nat)) ∧ u = w') := fun u => specPowN_is C b Y hY hC (by omega) u
              rw [hX] at hp1 hd
              rw [hY] at hp2 hd
              rw [hd.out] at HX
              clear hX hY hd hfit
              have hwa : IntKind.i64.wrap (((a + 1 : Nat) : Int) - 1) = (a : Int) := by rw [IntWalk.i64_in _ (by omega)]; omega
              have hwb : IntKind.i64.wrap (((b + 1 : Nat) : Int) - 1) = (b : Int) := by rw [IntWalk.i64_in _ (by omega)]; omega
              have hx0 : ¬ (X : Int) = 0 := by omega
              have hx1 : ((X : Int) == 0) = false := by rw [beq_eq_false_iff_ne]; omega
              have hy0 : ¬ (Y : Int) = 0 := by omega
              have hy1 : ((Y : Int) == 0) = false := by rw [beq_eq_false_iff_ne]; omega
              have hc00 : ¬ (C : Int) = 0 := by omega
              have hc01 : ((C : Int) == 0) = false := by rw [beq_eq_false_iff_ne]; omega
              obtain ⟨p1, a1, hw1, ht1, hv1⟩ := dig_walk s X C
              obtain ⟨p2, a2, hw2, ht2, hv2⟩ := dig_walk s Y C
              have hv1 := hv1 (by omega)
              have hv2 := hv2 (by omega)
              rw [hw1.2, hw2.2] at HX
              have hw1 := hw1.1 (by omega) (by omega)
              have hw2 := hw2.1 (by omega) (by omega)
              cases hall : (es.take k).all (difB C s) with
              | false =>
                rw [hall, Bool.false_and] at HX
                clear hall
                go_wp2_with fail
                refine (H1.out _).mono ?_
                rintro e4 w4 ⟨rfl, rfl⟩
                go_wp2_with fail
                refine (H2.out _).mono ?_
                rintro e5 w5 ⟨rfl, rfl⟩
                go_wp2_with fail
                go_roundw
                case rel => exact ⟨k + 1, by omega, by go_num, by rw [HX.out], L1⟩
                case measure => simp [intOf]; omega
              | true =>
                rw [hall, Bool.true_and] at HX
                clear hall
                by_cases hab : a1 = a2
                · rw [decide_eq_true hab] at HX
                  subst hab
                  go_wp2_with fail
                  refine (H1.out _).mono ?_
                  rintro e4 w4 ⟨rfl, rfl⟩
                  go_wp2_with fail
                  refine (H2.out _).mono ?_
                  rintro e5 w5 ⟨rfl, rfl⟩
                  go_wp2_with fail
                  go_roundw
                  case rel => exact ⟨k + 1, by omega, by go_num, by rw [HX.out]; first | rfl | (simp; done) | (simp; omega), L1⟩
                  case measure => simp [intOf]; omega
                · rw [decide_eq_false hab] at HX
                  have hab1 : ¬ (a1 : Int) = (a2 : Int) := by omega
                  have hab2 : ((a1 : Int) == (a2 : Int)) = false := beq_eq_false_iff_ne.2 hab1
                  go_wp2_with fail
                  refine (H1.out _).mono ?_
                  rintro e4 w4 ⟨rfl, rfl⟩
                  go_wp2_with fail
                  refine (H2.out _).mono ?_
                  rintro e5 w5 ⟨rfl, rfl⟩
                  go_wp2_with fail
                  go_roundw
                  case rel => exact ⟨k + 1, by omega, by go_num, by rw [HX.out]; first | rfl | (simp; done) | (simp; omega), L1⟩
                  case measure => simp [intOf]; omega
            · obtain rfl : k = es.length := by omega
              have hall := HQ.out s
              rw [hall]
              clear hall
              cases hv : q s with
              | false =>
                have hnx := Lib.hid (cP_miss hv)
                go_wp2_with fail
                go_roundw
                case rel => exact ⟨s + 1, by omega, by go_num, by rw [hnx.out, HZ.out], L1⟩
                case measure => simp [intOf]; omega
              | true =>
                have hnx := Lib.hid (cP_hit hv)
                go_wp2_with fail
                go_roundw
                case rel => exact ⟨s + 1, by omega, by go_num, by rw [hnx.out, HZ.out]; go_num, L1⟩
                case measure => simp [intOf]; omega
        · obtain rfl : s = W := by omega
          go_wp2_with fail
          refine (HP.out _).mono ?_
          rintro e3 w3 ⟨rfl, rfl⟩
          go_wp2_with fail
          go_returns
          exact ⟨rfl, L1.below⟩
end Go.Proofs.Ytdacfeebidhgnaa

/- Chapter 10 of the reference: PaintedSum and FlowsSum. -/
namespace Go.Proofs.Ytdacfeebidhgnaa
open Go.RowKit
set_option maxRecDepth 100000

/-- What a state adds to PaintedSum, and to FlowsSum. -/
def paintT (n : Int) (es : List (Int × Int)) (x : Int) (s : Nat) : Int := sgn (pop s) (x ^ piecesB n es s)
def flowT (n : Int) (es : List (Int × Int)) (x : Int) (s : Nat) : Int := sgn (es.length + pop s) (x ^ (pop s + piecesB n es s - n.toNat))
def sumOkB (n : Int) (es : List (Int × Int)) (x : Int) : Bool := netOkB n es && (decide (-4 ≤ x) && decide (x ≤ 4))
def flowOkB (n : Int) (es : List (Int × Int)) (x : Int) : Bool := netOkB n es && (decide (es.length ≤ 6) && (decide (1 ≤ x) && decide (x ≤ 4)))
def paintSumI (n : Int) (es : List (Int × Int)) (x : Int) : Int := if sumOkB n es x = true then sumS (paintT n es x) (2 ^ es.length) else 0
def flowSumI (n : Int) (es : List (Int × Int)) (x : Int) : Int := if flowOkB n es x = true then sumS (flowT n es x) (2 ^ es.length) else 0
theorem sgn_bound (t : Nat) {x B : Int} (h : -B ≤ x ∧ x ≤ B) : -B ≤ sgn t x ∧ sgn t x ≤ B := by unfold sgn; split <;> omega
theorem pow6_bound {x : Int} (h1 : -4 ≤ x) (h2 : x ≤ 4) {k : Nat} (hk : k ≤ 6) : -4096 ≤ x ^ k ∧ x ^ k ≤ 4096 := by
  have h := powI_four h1 h2 k
  have : 4 ^ k ≤ 4 ^ 6 := Nat.pow_le_pow_right (by omega) hk
  have e : 4 ^ 6 = 4096 := by decide
  omega
theorem sumS_bound {f : Nat → Int} {B : Int} (hB : 0 ≤ B) (h : ∀ k, -B ≤ f k ∧ f k ≤ B) : ∀ s : Nat, -(s * B) ≤ sumS f s ∧ sumS f s ≤ s * B
  | 0 => by simp [sumS]
  | s + 1 => by
    have h1 := sumS_bound hB h s
    have h2 := h s
    simp only [sumS, Int.natCast_add, Int.add_mul]
    omega
theorem sumS_small {f : Nat → Int} (h : ∀ k, -4096 ≤ f k ∧ f k ≤ 4096) {s : Nat} (hs : s ≤ 512) : -2097152 ≤ sumS f s ∧ sumS f s ≤ 2097152 := by
  have h1 := sumS_bound (B := 4096) (by omega) h s
  omega
theorem sum_both {S T U : Int} (hU : U = S + T) (h1 : -2097152 ≤ S ∧ S ≤ 2097152) (h2 : -4096 ≤ T ∧ T ≤ 4096) : IntKind.i64.wrap (S + T) = U ∧ wrap64 (S + T) = U := by
  rw [hU]
  exact ⟨IntWalk.i64_in _ (by omega), by unfold wrap64; omega⟩
theorem neg_wrap {Y : Int} (h : -4096 ≤ Y ∧ Y ≤ 4096) : IntKind.i64.wrap (-Y) = -Y ∧ wrap64 (-Y) = -Y := ⟨IntWalk.i64_in _ (by omega), by unfold wrap64; omega⟩
theorem sgn_even {t : Nat} (h : ¬ t % 2 = 1) (x : Int) : sgn t x = x := by unfold sgn; rw [if_pos (by omega)]
theorem sgn_odd {t : Nat} (h : t % 2 = 1) (x : Int) : sgn t x = -x := by unfold sgn; rw [if_neg (by omega)]
theorem pieces_six {n : Int} {es : List (Int × Int)} {s : Int} (h : stateOkB n es s = true) : piecesB n es s ≤ 6 := by
  have h1 := (netOkB_iff.1 (stateOkB_net h)).1
  have : piecesB n es s ≤ n.toNat := pcs_le _ _ _ _
  omega
theorem paintT_bound {n : Int} {es : List (Int × Int)} (hn : netOkB n es = true) {x : Int} (h1 : -4 ≤ x) (h2 : x ≤ 4) (s : Nat) : -4096 ≤ paintT n es x s ∧ paintT n es x s ≤ 4096 := by
  have h : piecesB n es s ≤ 6 := by
    have h1 := (netOkB_iff.1 hn).1
    have : piecesB n es s ≤ n.toNat := pcs_le _ _ _ _
    omega
  exact sgn_bound _ (pow6_bound h1 h2 h)
theorem mod_nat2 (t : Nat) : ((t : Int)).tmod 2 = ((t % 2 : Nat) : Int) := by rw [Int.tmod_eq_emod_of_nonneg (Int.natCast_nonneg _)]; rfl

theorem flow_exp {n : Int} {es : List (Int × Int)} (hn : netOkB n es = true) (h6 : es.length ≤ 6) {s : Nat} (hs : s < 2 ^ es.length) :
    ∃ e : Nat, pop s + piecesB n es s = n.toNat + e ∧ e ≤ 6 ∧ pop s ≤ es.length ∧ 2 ≤ n ∧ n ≤ 6 ∧ piecesB n es s ≤ 6 := by
  have hso := state_of hn hs
  have h1 := netOkB_iff.1 hn
  have h2 := pieces_there hso
  have h3 := pieces_six hso
  have h4 : pop s ≤ es.length := pop_low hs (by omega)
  have h5 : piecesB n es s ≤ n.toNat := pcs_le _ _ _ _
  have h7 : thereI n es s = pop s := by unfold thereI; rw [hso, if_pos rfl]; rfl
  rw [h7] at h2
  exact ⟨pop s + piecesB n es s - n.toNat, by omega, by omega, h4, by omega, by omega, h3⟩
theorem flowT_bound {n : Int} {es : List (Int × Int)} (hn : netOkB n es = true) (h6 : es.length ≤ 6) {x : Int} (h1 : -4 ≤ x) (h2 : x ≤ 4) {s : Nat} (hs : s < 2 ^ es.length) : -4096 ≤ flowT n es x s ∧ flowT n es x s ≤ 4096 := by
  obtain ⟨e, he, he6, -⟩ := flow_exp hn h6 hs
  unfold flowT
  rw [show pop s + piecesB n es s - n.toNat = e by omega]
  exact sgn_bound _ (pow6_bound h1 h2 he6)
theorem sumS_smallP {f : Nat → Int} {P : Nat} (h : ∀ k, k < P → -4096 ≤ f k ∧ f k ≤ 4096) {s : Nat} (hs : s ≤ P) (hP : P ≤ 512) : -2097152 ≤ sumS f s ∧ sumS f s ≤ 2097152 := by
  have h1 := sumS_small (f := fun k => if k < P then f k else 0) (fun k => by
    show -4096 ≤ (if k < P then f k else 0) ∧ (if k < P then f k else 0) ≤ 4096
    by_cases hk : k < P
    · rw [if_pos hk]; exact h k hk
    · rw [if_neg hk]; omega) (s := s) (by omega)
  rwa [sumS_congr (g := f) s (fun k hk => if_pos (by omega))] at h1
theorem exp_wrap {t pb m e : Nat} (h : t + pb = m + e) (hp : pb ≤ 6) (he : e ≤ 6) (hm : m ≤ 6) :
    (IntKind.i64.wrap ((t : Int) - (m : Int)) = (t : Int) - (m : Int) ∧ wrap64 ((t : Int) - (m : Int)) = (t : Int) - (m : Int)) ∧ IntKind.i64.wrap ((t : Int) - (m : Int) + (pb : Int)) = (e : Int) ∧ wrap64 ((t : Int) - (m : Int) + (pb : Int)) = (e : Int) := by
  have h1 : (t : Int) - (m : Int) + (pb : Int) = (e : Int) := by omega
  rw [h1]
  exact ⟨⟨IntWalk.i64_in _ (by omega), by unfold wrap64; omega⟩, IntWalk.i64_in _ (by omega), by unfold wrap64; omega⟩
theorem par_wrap {t l : Nat} (h : t ≤ l) (hl : l ≤ 9) :
    (IntKind.i64.wrap ((l : Int) - (t : Int)) = (l : Int) - (t : Int) ∧ wrap64 ((l : Int) - (t : Int)) = (l : Int) - (t : Int)) ∧ ((l : Int) - (t : Int)).tmod 2 = (if (l + t) % 2 = 1 then 1 else 0) ∧ True := by
  refine ⟨⟨IntWalk.i64_in _ (by omega), by unfold wrap64; omega⟩, ?_, trivial⟩
  rw [Int.tmod_eq_emod_of_nonneg (by omega)]
  split <;> omega

end Go.Proofs.Ytdacfeebidhgnaa
