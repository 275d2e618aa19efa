/- Chapter 10 of the program: digits, powers, ways counted by numbers, CountPainted. -/
import Derived.Test.YtgacgaidlbkkmaaSpec10b
import Derived.Test.YtgacgaidlbkkmaaImpl5w
import Derived.Test.YtgacgaidlbkkmaaWeights
namespace Go.Proofs.Ytgacgaidlbkkmaa
open Go.RowKit
set_option maxRecDepth 100000

/-- The digits of a number. -/
def digL (c s m : Nat) : List Int := rowL (fun i => ((s / c ^ i % c : Nat) : Int)) m
def digP (c s j : Nat) (i : Nat) : Int := if i < j then ((s / c ^ i % c : Nat) : Int) else 0
theorem digP_start (c s m : Nat) : rowL (digP c s 0) m = List.replicate m 0 := by rw [rowL_zero]; exact rowL_congr fun k _ => by simp [digP]
theorem digP_step (c s j m : Nat) : (rowL (digP c s j) m).set j ((s / c ^ j % c : Nat) : Int) = rowL (digP c s (j + 1)) m := by
  rw [rowL_set]
  refine rowL_congr fun k _ => ?_
  unfold updI digP
  by_cases h : k = j
  · subst h; simp
  · rw [if_neg h]
    by_cases h2 : k < j
    · rw [if_pos h2, if_pos (by omega)]
    · rw [if_neg h2, if_neg (by omega)]
theorem digP_end (c s m : Nat) : rowL (digP c s m) m = digL c s m := rowL_congr fun k hk => by simp [digP, hk]
theorem digL_length (c s m : Nat) : (digL c s m).length = m := rowL_length _ _

set_option maxHeartbeats 2000000 in
theorem digitsOf_any (c s m : Nat) (hc : m = 0 ∨ 1 ≤ c) (hs : s ≤ 4096) (hm : m ≤ 9) (w : World) :
    Calls Try.prog 80 #[.int .i64 s, .int .i64 c, .int .i64 m] w (GotInts w (digL c s m)) := by
  obtain ⟨i0, hi0, hz0, hz1, hz2⟩ := info_parts int_info
  have hHE := Lib.hid (digP_end c s m)
  have HS : Hid (∀ j, (rowL (digP c s j) m).set j ((s / c ^ j % c : Nat) : Int) = rowL (digP c s (j + 1)) m) := fun j => digP_step c s j m
  have HD : Hid (∀ j, s / c ^ (j + 1) = s / c ^ j / c) := fun j => by rw [Nat.pow_succ, Nat.div_div_eq_div_mul]
  have HB : Hid (∀ j, s / c ^ j ≤ 4096) := fun j => Nat.le_trans (Nat.div_le_self _ _) hs
  have hz : s / c ^ 0 = s := by simp
  go_enter Try.func80, Try.ntmps80
  go_wp2_with (at_make; refine wpList_make_full _ rfl _ _ 56 rfl w.heap.size 3 i0 _ 1 Try.underlying56 hi0 hz0 hz1 .i64 .i64 m m m rfl rfl rfl rfl (by rw [hz2]; omega) (by simp [maxLen]; omega) (by omega) ?_; intro w2 hown2 hg2)
  have O2 : OwnI w2 w.heap.size (.slice (some ⟨w.heap.size, 0, none⟩) m m) (rowL (digP c s 0) m) := by
    rw [digP_start]
    unfold OwnI; rw [List.length_replicate, ← madeCells_ints]; exact hown2
  have hb2 : Below w.heap.size w w2 := (Below.refl _ _).grown hg2 (by omega) (by simp)
  clear hown2 hg2 hz1 hz2 hi0 hz0
  go_wp2_with fail
  go_loopw [0, 13] (fun v i wr => ∃ j : Nat, j ≤ m ∧ i = .int .i64 (j : Nat) ∧ v = .int .i64 (s / c ^ j : Nat) ∧ OwnI wr w.heap.size (.slice (some ⟨w.heap.size, 0, none⟩) m m) (rowL (digP c s j) m) ∧ Below w.heap.size w wr) (fun _ i _ => m - (intOf i).toNat)
  case atStart => exact ⟨0, by omega, rfl, by rw [hz], O2, hb2⟩
  case round =>
    clear O2 hb2
    obtain ⟨j, hj, rfl, rfl, O, hb⟩ := hrel
    by_cases hlt : j < m
    · have hd := HD.out j
      have hB := HB.out j
      have O3 := O.store j ((s / c ^ j % c : Nat) : Int)
      rw [HS.out] at O3
      obtain ⟨y1, y2⟩ := O.slot (k := j) hlt
      generalize s / c ^ j = v at *
      have hmod : ((v : Int)).tmod (c : Int) = ((v % c : Nat) : Int) := by rw [Int.tmod_eq_emod_of_nonneg (Int.natCast_nonneg _)]; rfl
      have hdiv : wrap64 ((v : Int) / (c : Int)) = ((v / c : Nat) : Int) := by
        have : v / c ≤ v := Nat.div_le_self _ _
        rw [← Int.natCast_ediv]
        generalize v / c = p at *
        unfold wrap64; omega
      have hc0 : ¬ (c : Int) = 0 := by omega
      have hc1 : ((c : Int) == 0) = false := by rw [beq_eq_false_iff_ne]; omega
      rw [← hd] at hdiv
      obtain ⟨v2, hv2⟩ : ∃ v2, s / c ^ (j + 1) = v2 := ⟨_, rfl⟩
      rw [hv2] at hdiv
      have HV2 := Lib.hid hv2
      clear hv2
      generalize v % c = r at *
      clear O hd
      go_wp2_with fail
      go_roundw
      case rel => exact ⟨j + 1, by omega, by go_num, by rw [HV2.out, hdiv], O3, hb.setCell (by simp) _⟩
      case measure => simp [intOf]; omega
    · obtain rfl : j = m := by omega
      rw [hHE.out] at O
      have HL := Lib.hid (digL_length c s j)
      go_wp2_with fail
      go_returns
      exact ⟨some ⟨w.heap.size, 0, none⟩, j, by rw [HL.out]; rfl, by rw [HL.out]; exact O, hb⟩

/-- A number taken so many times, up to k times. -/
def pwI (x : Int) (k : Nat) : List Int := rowL (fun i => x ^ i) (k + 1)
theorem pwI_length (x : Int) (k : Nat) : (pwI x k).length = k + 1 := rowL_length _ _
theorem pwI_get (x : Int) (k : Nat) {i : Nat} (h : i ≤ k) : (pwI x k)[i]? = some (x ^ i) := rowL_get _ (by omega)
theorem pwI_more (x : Int) (k : Nat) : pwI x k ++ [x ^ (k + 1)] = pwI x (k + 1) := by
  unfold pwI rowL
  rw [List.range_succ (n := k + 1), List.map_append]; rfl
theorem pwI_start (x : Int) : [1] = pwI x 0 := by simp [pwI, rowL]
theorem mulI_wrap {x Y : Int} (h1 : -4 ≤ x) (h2 : x ≤ 4) (h3 : -262144 ≤ Y ∧ Y ≤ 262144) : IntKind.i64.wrap (x * Y) = x * Y ∧ wrap64 (x * Y) = x * Y := by
  have := mul_wrap h1 h2 h3
  rwa [Int.mul_comm] at this

set_option maxHeartbeats 1000000 in
theorem powersI_any (x : Int) (m : Nat) (h1 : -4 ≤ x) (h2 : x ≤ 4) (hm : m ≤ 9) (w : World) :
    Calls Try.prog 51 #[.int .i64 x, .int .i64 m] w (GotInts w (pwI x m)) := by
  obtain ⟨i0, hi0, hz0, hz1, hz2⟩ := info_parts int_info
  go_enter Try.func51, Try.ntmps51
  go_wp2_with fail
  go_loopw [5, 8] (fun v i wr => ∃ (A : Option Addr) (c k : Nat), k ≤ m ∧ i = .int .i64 (k : Nat) ∧ v = .slice A (k + 1) c ∧ OwnI wr w.heap.size (.slice A (k + 1) c) (pwI x k) ∧ Below w.heap.size w wr) (fun _ i _ => m - (intOf i).toNat)
  case atStart => exact ⟨some ⟨w.heap.size, 0, none⟩, 1, 0, by omega, rfl, rfl, pwI_start x ▸ OwnI.box w [1] (Nat.le_refl _) (by simp [maxLen]), (Below.refl _ _).alloc (Nat.le_refl _) _⟩
  case round =>
    obtain ⟨A, c, k, hk, rfl, rfl, own, hb⟩ := hrel
    by_cases hlt : k < m
    · obtain ⟨b, off, rfl, hbb, g1⟩ := own.ints k _ (pwI_get x k (Nat.le_refl _))
      have hY := powI_bound h1 h2 (show k ≤ 9 by omega)
      have hs : Hid (x * x ^ k = x ^ (k + 1)) := by rw [Hid, Int.pow_succ, Int.mul_comm]
      have HN := Lib.hid (pwI_more x k)
      rw [← hs.out] at HN
      clear hs
      generalize x ^ k = Y at *
      obtain ⟨hw1, hw2⟩ := mulI_wrap h1 h2 hY
      have hw4 : IntKind.i64.wrap ((k : Int) + 1 - 1) = (k : Int) := by rw [IntWalk.i64_in _ (by omega)]; omega
      obtain ⟨Z, hZ⟩ : ∃ Z, x * Y = Z := ⟨_, rfl⟩
      rw [hZ] at HN
      have HZ := Lib.hid hZ
      have HO : Hid (wr.ownsRow w.heap.size 3 1 (.slice (some ⟨b, off, none⟩) (k + 1) c) (k + 1) (ints (pwI x k))) := by
        have h := own
        unfold OwnI at h
        rw [pwI_length] at h; exact h
      have hsz := hb.size
      have ik : (k : Int) < (k : Int) + 1 := by omega
      have ln := pwI_length x k
      clear hZ
      go_wp2_with (at_builtin; (refine wpList_append_lies _ rfl (.tmp 10) (.tmp 19) 56 rfl w.heap.size 3 i0 _ 1 8 Try.underlying56 hi0 hz0 hz1 hz2 rfl (by omega) (.slice (some ⟨b, off, none⟩) (k + 1) c) (k + 1) (ints (pwI x k)) rfl (World.ownsRow.alloc HO.out _) ⟨wr.heap.size, 0, none⟩ 1 1 [.int .i64 (x * Y)] rfl rfl (World.news_of_block (cs := #[.int .i64 (x * Y)]) (t := 3) (fr := (0, 0)) (heap_alloc_new _ _)) (by simp [Value.oneCell']) (by omega) (by simp [maxLen]; omega) (by omega) (by simp; omega) _ rfl ?_); intro gg cc w5 hown5 hgrow hat hlt5)
      rw [HZ.out] at hown5
      have O5 : OwnI w5 w.heap.size (.slice (some ⟨gg, 0, none⟩) (k + 1 + 1) cc) (pwI x (k + 1)) := by
        rw [← HN.out]
        unfold OwnI
        rw [ints_append, List.length_append, ln]; exact hown5
      have hg1 : w.heap.size ≤ b := own.ge b rfl
      have B5 : Below w.heap.size w w5 := by
        have h1 := grown_box hgrow
        exact hb.trans ⟨h1.os, h1.tape, h1.output, h1.size, fun j hj => h1.block j (by omega) (fun e => by have e' : j = b := Option.some.inj e; omega)⟩
      clear HO own hown5 hgrow hat hlt5 HN hb g1
      go_roundw
      case rel => exact ⟨some ⟨gg, 0, none⟩, cc, k + 1, by omega, by go_num, by rfl, O5, B5⟩
      case measure => simp [intOf]; omega
    · obtain rfl : k = m := by omega
      go_wp2_with fail
      go_returns
      exact ⟨A, c, by rw [pwI_length]; rfl, by rw [pwI_length]; exact own, hb⟩

set_option maxHeartbeats 2000000 in
/-- How many numbers work, by a function's value that is given their digits. -/
theorem countWays_any (F : FuncId) (caps : Array Value) (q : Nat → Bool) (c m W : Nat) (u : World) (hc : c ≤ 4) (hm : m ≤ 9) (hW : c ^ m = W) (hW2 : W ≤ 4096)
    (hF : ∀ (args : Array Value) (u : World), (callFunc F args).run Try.prog u = .ok (.enter F args) u)
    (HK : ∀ v, Below u.heap.size u v → ∀ s : Nat, s < W → ∀ (A : Option Addr) (d : Nat), OwnI v u.heap.size (.slice A m d) (digL c s m) → Calls Try.prog F (#[.slice A m d] ++ caps) v fun e w' => e = .returned (.bool (q s)) ∧ Below u.heap.size v w') :
    Calls Try.prog 45 #[.int .i64 m, .int .i64 c, .func (.func F) #[] caps] u fun e w' => e = .returned (.int .i64 (cP q W : Nat)) ∧ Below u.heap.size u w' := by
  have HC := Lib.hid HK
  have hpw : ((c : Int)) ^ m = ((W : Nat) : Int) := by rw [← hW, Int.natCast_pow]
  have HP : Hid (∀ v, Calls Try.prog 51 #[.int .i64 c, .int .i64 m] v (GotInts v (pwI c m))) := fun v => powersI_any c m (by omega) (by omega) hm v
  have HG : Hid ((pwI c m)[m]? = some ((W : Nat) : Int)) := by rw [Hid, pwI_get _ _ (Nat.le_refl _), hpw]
  have HPL := Lib.hid (pwI_length c m)
  have HD : Hid (∀ v s, s < W → Calls Try.prog 80 #[.int .i64 s, .int .i64 c, .int .i64 m] v (GotInts v (digL c s m))) := fun v s hs => digitsOf_any c s m (by
    rcases Nat.eq_zero_or_pos m with e | e
    · exact .inl e
    · rcases Nat.eq_zero_or_pos c with e2 | e2
      · subst e2; rw [Nat.zero_pow e] at hW; omega
      · exact .inr e2) (by omega) hm v
  have HDL : Hid (∀ s, (digL c s m).length = m) := fun s => digL_length c s m
  generalize pwI (c : Int) m = ps at *
  clear HK hW hpw
  go_enter Try.func45, Try.ntmps45
  go_wp2_with fail
  refine (HP.out _).mono ?_
  rintro e1 w1 ⟨A1, c1, rfl, own1, hb1⟩
  rw [HPL.out] at own1 ⊢
  obtain ⟨b, off, rfl, hbb, g1⟩ := own1.ints m _ HG.out
  have im : (m : Int) < (m : Int) + 1 := by omega
  go_wp2_with fail
  clear g1 own1
  go_loopw [7, 15] (fun v i wr => ∃ s : Nat, s ≤ W ∧ i = .int .i64 (s : Nat) ∧ v = .int .i64 (cP q s : Nat) ∧ Below u.heap.size u wr) (fun _ i _ => W - (intOf i).toNat)
  case atStart => exact ⟨0, by omega, rfl, rfl, hb1⟩
  case round =>
    clear hb1
    obtain ⟨s, hs, rfl, rfl, hb⟩ := hrel
    by_cases hlt : s < W
    · have hz := cP_le q s
      have hdig := Lib.hid (HD.out wr s hlt)
      have hcall := Lib.hid (fun v hv => HC.out v hv s hlt)
      have hdl := HDL.out s
      cases hv : q s with
      | true =>
        have hnx := Lib.hid (cP_hit hv)
        rw [hv] at hcall
        generalize cP q s = z at *
        clear hv
        go_wp2_with fail
        refine hdig.out.mono ?_
        rintro e2 w2 ⟨A2, c2, rfl, own2, hb2⟩
        rw [hdl] at own2 ⊢
        have hb3 := hb.trans (hb2.mono hb.size)
        go_wp2_with fail
        refine (hcall.out _ hb3 A2 c2 (own2.more hb.size)).mono ?_
        rintro e3 w3 ⟨rfl, hb4⟩
        have hb5 := hb3.trans hb4
        clear hb hb2 hb3 hb4 own2
        go_wp2_with fail
        go_roundw
        case rel => exact ⟨s + 1, by omega, by go_num, by rw [hnx.out]; go_num, hb5⟩
        case measure => simp [intOf]; omega
      | false =>
        have hnx := Lib.hid (cP_miss hv)
        rw [hv] at hcall
        generalize cP q s = z at *
        clear hv
        go_wp2_with fail
        refine hdig.out.mono ?_
        rintro e2 w2 ⟨A2, c2, rfl, own2, hb2⟩
        rw [hdl] at own2 ⊢
        have hb3 := hb.trans (hb2.mono hb.size)
        go_wp2_with fail
        refine (hcall.out _ hb3 A2 c2 (own2.more hb.size)).mono ?_
        rintro e3 w3 ⟨rfl, hb4⟩
        have hb5 := hb3.trans hb4
        clear hb hb2 hb3 hb4 own2
        go_wp2_with fail
        go_roundw
        case rel => exact ⟨s + 1, by omega, by go_num, by rw [hnx.out], hb5⟩
        case measure => simp [intOf]; omega
    · obtain rfl : s = W := by omega
      go_wp2_with fail
      go_returns
      exact ⟨rfl, hb⟩

theorem signed_any (t : Nat) (x : Int) (hx : -1000000 ≤ x ∧ x ≤ 1000000) (w : World) :
    Calls Try.prog 55 #[.int .i64 t, .int .i64 x] w fun e w' => e = .returned (.int .i64 (sgn t x)) ∧ w = w' := by
  have htm := mod_nat2 t
  by_cases h : t % 2 = 0
  · have hs : sgn t x = x := by unfold sgn; rw [if_pos h]
    rw [hs]
    rw [h] at htm
    clear h
    go_enter Try.func55, Try.ntmps55
    go_wp2_with fail
    go_returns
    exact ⟨rfl, rfl⟩
  · have hs : sgn t x = -x := by unfold sgn; rw [if_neg h]
    rw [hs]
    rw [show t % 2 = 1 by omega] at htm
    have hw1 : IntKind.i64.wrap (-x) = -x := IntWalk.i64_in _ (by omega)
    clear h
    go_enter Try.func55, Try.ntmps55
    go_wp2_with fail
    go_returns
    exact ⟨by first | rfl | simp [hw1], rfl⟩
theorem signed_is (t : Nat) (x z : Int) (h : sgn t x = z) (hx : -1000000 ≤ x ∧ x ≤ 1000000) (w : World) :
    Calls Try.prog 55 #[.int .i64 t, .int .i64 x] w fun e w' => e = .returned (.int .i64 z) ∧ w = w' := h ▸ signed_any t x hx w
end Go.Proofs.Ytgacgaidlbkkmaa
