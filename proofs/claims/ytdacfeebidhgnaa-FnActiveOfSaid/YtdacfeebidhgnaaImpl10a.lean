/- Chapter 10 of the program: digits, powers, ways counted by numbers, CountPainted. -/
import Derived.Test.YtdacfeebidhgnaaSpec10a
import Derived.Test.YtdacfeebidhgnaaImpl5w
import Derived.Test.YtdacfeebidhgnaaWeights
import Derived.Test.YtdacfeebidhgnaaImpl2
import Derived.Test.YtdacfeebidhgnaaTutte
import Derived.Deep.RegionHeld3
import Derived.Test.YtdacfeebidhgnaaMore2
namespace Go.Proofs.Ytdacfeebidhgnaa
open Go.RowKit
set_option maxRecDepth 100000

/-- The digits of a number. -/
def digL (c s m : Nat) : List Int := rowL (fun i => ((s / c ^ i % c : Nat) : Int)) m
def digP (c s j : Nat) (i : Nat) : Int := if i < j then ((s / c ^ i % c : Nat) : Int) else 0
theorem digP_start (c s m : Nat) : rowL (digP c s 0) m = List.replicate m 0 := by rw [rowL_zero]; exact rowL_congr fun k _ => by simp [digP]
theorem digP_step (c s j m : Nat) : (rowL (digP c s j) m).set j ((s / c ^ j % c : Nat) : Int) = rowL (digP c s (j + 1)) m := by
  rw [rowL_set]
  refine rowL_congr fun k _ => ?_
  unfold updI digP
  by_cases h : k = j
  · subst h; simp
  · rw [if_neg h]
    by_cases h2 : k < j
    · rw [if_pos h2, if_pos (by omega)]
    · rw [if_neg h2, if_neg (by omega)]
theorem digP_end (c s m : Nat) : rowL (digP c s m) m = digL c s m := rowL_congr fun k hk => by simp [digP, hk]
theorem digL_length (c s m : Nat) : (digL c s m).length = m := rowL_length _ _

set_option maxHeartbeats 2000000 in
theorem digitsOf_any (c s m : Nat) (hc : m = 0 ∨ 1 ≤ c) (hs : s ≤ 4096) (hm : m ≤ 9) (w : World) :
    Calls Try.prog 133 #[.int .i64 s, .int .i64 c, .int .i64 m] w (GotInts w (digL c s m)) := by
  obtain ⟨i0, hi0, hz0, hz1, hz2⟩ := info_parts int_info
  have hHE := Lib.hid (digP_end c s m)
  have HS : Hid (∀ j, (rowL (digP c s j) m).set j ((s / c ^ j % c : Nat) : Int) = rowL (digP c s (j + 1)) m) := fun j => digP_step c s j m
  have HD : Hid (∀ j, s / c ^ (j + 1) = s / c ^ j / c) := fun j => by rw [Nat.pow_succ, Nat.div_div_eq_div_mul]
  have HB : Hid (∀ j, s / c ^ j ≤ 4096) := fun j => Nat.le_trans (Nat.div_le_self _ _) hs
  have hz : s / c ^ 0 = s := by simp
  go_enter Try.func133, Try.ntmps133
  go_wp2_with (at_make; refine wpList_make_full _ rfl _ _ 33 rfl w.heap.size 3 i0 _ 1 Try.underlying33 hi0 hz0 hz1 .i64 .i64 m m m rfl rfl rfl rfl (by rw [hz2]; omega) (by simp [maxLen]; omega) (by omega) ?_; intro w2 hown2 hg2)
  have O2 : OwnI w2 w.heap.size (.slice (some ⟨w.heap.size, 0, none⟩) m m) (rowL (digP c s 0) m) := by
    rw [digP_start]
    unfold OwnI; rw [List.length_replicate, ← madeCells_ints]; exact hown2
  have hb2 : Below w.heap.size w w2 := (Below.refl _ _).grown hg2 (by omega) (by simp)
  clear hown2 hg2 hz1 hz2 hi0 hz0
  go_wp2_with fail
  go_loopw [0, 13] (fun v i wr => ∃ j : Nat, j ≤ m ∧ i = .int .i64 (j : Nat) ∧ v = .int .i64 (s / c ^ j : Nat) ∧ OwnI wr w.heap.size (.slice (some ⟨w.heap.size, 0, none⟩) m m) (rowL (digP c s j) m) ∧ Below w.heap.size w wr) (fun _ i _ => m - (intOf i).toNat)
  case atStart => exact ⟨0, by omega, rfl, by rw [hz], O2, hb2⟩
  case round =>
    clear O2 hb2
    obtain ⟨j, hj, rfl, rfl, O, hb⟩ := hrel
    by_cases hlt : j < m
    · have hd := HD.out j
      have hB := HB.out j
      have O3 := O.store j ((s / c ^ j % c : Nat) : Int)
      rw [HS.out] at O3
      obtain ⟨y1, y2⟩ := O.slot (k := j) hlt
      generalize s / c ^ j = v at *
      have hmod : ((v : Int)).tmod (c : Int) = ((v % c : Nat) : Int) := by rw [Int.tmod_eq_emod_of_nonneg (Int.natCast_nonneg _)]; rfl
      have hdiv : wrap64 ((v : Int) / (c : Int)) = ((v / c : Nat) : Int) := by
        have : v / c ≤ v := Nat.div_le_self _ _
        rw [← Int.natCast_ediv]
        generalize v / c = p at *
        unfold wrap64; omega
      have hc0 : ¬ (c : Int) = 0 := by omega
      have hc1 : ((c : Int) == 0) = false := by rw [beq_eq_false_iff_ne]; omega
      rw [← hd] at hdiv
      obtain ⟨v2, hv2⟩ : ∃ v2, s / c ^ (j + 1) = v2 := ⟨_, rfl⟩
      rw [hv2] at hdiv
      have HV2 := Lib.hid hv2
      clear hv2
      generalize v % c = r at *
      clear O hd
      go_wp2_with fail
      go_roundw
      case rel => exact ⟨j + 1, by omega, by go_num, by rw [HV2.out, hdiv], O3, hb.setCell (by simp) _⟩
      case measure => simp [intOf]; omega
    · obtain rfl : j = m := by omega
      rw [hHE.out] at O
      have HL := Lib.hid (digL_length c s j)
      go_wp2_with fail
      go_returns
      exact ⟨some ⟨w.heap.size, 0, none⟩, j, by rw [HL.out]; rfl, by rw [HL.out]; exact O, hb⟩

/-- A number taken so many times, up to k times. -/
def pwI (x : Int) (k : Nat) : List Int := rowL (fun i => x ^ i) (k + 1)
theorem pwI_length (x : Int) (k : Nat) : (pwI x k).length = k + 1 := rowL_length _ _
theorem pwI_get (x : Int) (k : Nat) {i : Nat} (h : i ≤ k) : (pwI x k)[i]? = some (x ^ i) := rowL_get _ (by omega)
theorem pwI_more (x : Int) (k : Nat) : pwI x k ++ [x ^ (k + 1)] = pwI x (k + 1) := by
  unfold pwI rowL
  rw [List.range_succ (n := k + 1), List.map_append]; rfl
theorem pwI_start (x : Int) : [1] = pwI x 0 := by simp [pwI, rowL]
theorem mulJ_wrap {x Y : Int} (h1 : -5 ≤ x) (h2 : x ≤ 5) (h3 : -1953125 ≤ Y ∧ Y ≤ 1953125) : IntKind.i64.wrap (x * Y) = x * Y ∧ wrap64 (x * Y) = x * Y := by
  have := mulF_wrap h1 h2 h3
  rwa [Int.mul_comm] at this

set_option maxHeartbeats 1000000 in
theorem powersF_any (x : Int) (m : Nat) (h1 : -5 ≤ x) (h2 : x ≤ 5) (hm : m ≤ 9) (w : World) :
    Calls Try.prog 83 #[.int .i64 x, .int .i64 m] w (GotInts w (pwI x m)) := by
  obtain ⟨i0, hi0, hz0, hz1, hz2⟩ := info_parts int_info
  go_enter Try.func83, Try.ntmps83
  go_wp2_with fail
  go_loopw [5, 8] (fun v i wr => ∃ (A : Option Addr) (c k : Nat), k ≤ m ∧ i = .int .i64 (k : Nat) ∧ v = .slice A (k + 1) c ∧ OwnI wr w.heap.size (.slice A (k + 1) c) (pwI x k) ∧ Below w.heap.size w wr) (fun _ i _ => m - (intOf i).toNat)
  case atStart => exact ⟨some ⟨w.heap.size, 0, none⟩, 1, 0, by omega, rfl, rfl, pwI_start x ▸ OwnI.box w [1] (Nat.le_refl _) (by simp [maxLen]), (Below.refl _ _).alloc (Nat.le_refl _) _⟩
  case round =>
    obtain ⟨A, c, k, hk, rfl, rfl, own, hb⟩ := hrel
    by_cases hlt : k < m
    · obtain ⟨b, off, rfl, hbb, g1⟩ := own.ints k _ (pwI_get x k (Nat.le_refl _))
      have hY := powF_bound h1 h2 (show k ≤ 9 by omega)
      have hs : Hid (x * x ^ k = x ^ (k + 1)) := by rw [Hid, Int.pow_succ, Int.mul_comm]
      have HN := Lib.hid (pwI_more x k)
      rw [← hs.out] at HN
      clear hs
      generalize x ^ k = Y at *
      obtain ⟨hw1, hw2⟩ := mulJ_wrap h1 h2 hY
      have hw4 : IntKind.i64.wrap ((k : Int) + 1 - 1) = (k : Int) := by rw [IntWalk.i64_in _ (by omega)]; omega
      obtain ⟨Z, hZ⟩ : ∃ Z, x * Y = Z := ⟨_, rfl⟩
      rw [hZ] at HN
      have HZ := Lib.hid hZ
      have HO : Hid (wr.ownsRow w.heap.size 3 1 (.slice (some ⟨b, off, none⟩) (k + 1) c) (k + 1) (ints (pwI x k))) := by
        have h := own
        unfold OwnI at h
        rw [pwI_length] at h; exact h
      have hsz := hb.size
      have ik : (k : Int) < (k : Int) + 1 := by omega
      have ln := pwI_length x k
      clear hZ
      go_wp2_with (at_builtin; (refine wpList_append_lies _ rfl (.tmp 10) (.tmp 19) 33 rfl w.heap.size 3 i0 _ 1 8 Try.underlying33 hi0 hz0 hz1 hz2 rfl (by omega) (.slice (some ⟨b, off, none⟩) (k + 1) c) (k + 1) (ints (pwI x k)) rfl (World.ownsRow.alloc HO.out _) ⟨wr.heap.size, 0, none⟩ 1 1 [.int .i64 (x * Y)] rfl rfl (World.news_of_block (cs := #[.int .i64 (x * Y)]) (t := 3) (fr := (0, 0)) (heap_alloc_new _ _)) (by simp [Value.oneCell']) (by omega) (by simp [maxLen]; omega) (by omega) (by simp; omega) _ rfl ?_); intro gg cc w5 hown5 hgrow hat hlt5)
      rw [HZ.out] at hown5
      have O5 : OwnI w5 w.heap.size (.slice (some ⟨gg, 0, none⟩) (k + 1 + 1) cc) (pwI x (k + 1)) := by
        rw [← HN.out]
        unfold OwnI
        rw [ints_append, List.length_append, ln]; exact hown5
      have hg1 : w.heap.size ≤ b := own.ge b rfl
      have B5 : Below w.heap.size w w5 := by
        have h1 := grown_box hgrow
        exact hb.trans ⟨h1.os, h1.tape, h1.output, h1.size, fun j hj => h1.block j (by omega) (fun e => by have e' : j = b := Option.some.inj e; omega)⟩
      clear HO own hown5 hgrow hat hlt5 HN hb g1
      go_roundw
      case rel => exact ⟨some ⟨gg, 0, none⟩, cc, k + 1, by omega, by go_num, by rfl, O5, B5⟩
      case measure => simp [intOf]; omega
    · obtain rfl : k = m := by omega
      go_wp2_with fail
      go_returns
      exact ⟨A, c, by rw [pwI_length]; rfl, by rw [pwI_length]; exact own, hb⟩

theorem powersI_any (x : Int) (m : Nat) (h1 : -4 ≤ x) (h2 : x ≤ 4) (hm : m ≤ 9) (w : World) :
    Calls Try.prog 83 #[.int .i64 x, .int .i64 m] w (GotInts w (pwI x m)) := powersF_any x m (by omega) (by omega) hm w

set_option maxHeartbeats 2000000 in
/-- How many numbers work, by a function's value that is given their digits. -/
theorem countWays_any (F : FuncId) (caps : Array Value) (q : Nat → Bool) (c m W : Nat) (u : World) (hc : c ≤ 4) (hm : m ≤ 9) (hW : c ^ m = W) (hW2 : W ≤ 4096)
    (hF : ∀ (args : Array Value) (u : World), (callFunc F args).run Try.prog u = .ok (.enter F args) u)
    (HK : ∀ v, Below u.heap.size u v → ∀ s : Nat, s < W → ∀ (A : Option Addr) (d : Nat), OwnI v u.heap.size (.slice A m d) (digL c s m) → Calls Try.prog F (#[.slice A m d] ++ caps) v fun e w' => e = .returned (.bool (q s)) ∧ Below u.heap.size v w') :
    Calls Try.prog 101 #[.int .i64 m, .int .i64 c, .func (.func F) #[] caps] u fun e w' => e = .returned (.int .i64 (cP q W : Nat)) ∧ Below u.heap.size u w' := by
  have HC := Lib.hid HK
  have hpw : ((c : Int)) ^ m = ((W : Nat) : Int) := by rw [← hW, Int.natCast_pow]
  have HP : Hid (∀ v, Calls Try.prog 83 #[.int .i64 c, .int .i64 m] v (GotInts v (pwI c m))) := fun v => powersI_any c m (by omega) (by omega) hm v
  have HG : Hid ((pwI c m)[m]? = some ((W : Nat) : Int)) := by rw [Hid, pwI_get _ _ (Nat.le_refl _), hpw]
  have HPL := Lib.hid (pwI_length c m)
  have HD : Hid (∀ v s, s < W → Calls Try.prog 133 #[.int .i64 s, .int .i64 c, .int .i64 m] v (GotInts v (digL c s m))) := fun v s hs => digitsOf_any c s m (by
    rcases Nat.eq_zero_or_pos m with e | e
    · exact .inl e
    · rcases Nat.eq_zero_or_pos c with e2 | e2
      · subst e2; rw [Nat.zero_pow e] at hW; omega
      · exact .inr e2) (by omega) hm v
  have HDL : Hid (∀ s, (digL c s m).length = m) := fun s => digL_length c s m
  generalize pwI (c : Int) m = ps at *
  clear HK hW hpw
  go_enter Try.func101, Try.ntmps101
  go_wp2_with fail
  refine (HP.out _).mono ?_
  rintro e1 w1 ⟨A1, c1, rfl, own1, hb1⟩
  rw [HPL.out] at own1 ⊢
  obtain ⟨b, off, rfl, hbb, g1⟩ := own1.ints m _ HG.out
  have im : (m : Int) < (m : Int) + 1 := by omega
  go_wp2_with fail
  clear g1 own1
  go_loopw [7, 15] (fun v i wr => ∃ s : Nat, s ≤ W ∧ i = .int .i64 (s : Nat) ∧ v = .int .i64 (cP q s : Nat) ∧ Below u.heap.size u wr) (fun _ i _ => W - (intOf i).toNat)
  case atStart => exact ⟨0, by omega, rfl, rfl, hb1⟩
  case round =>
    clear hb1
    obtain ⟨s, hs, rfl, rfl, hb⟩ := hrel
    by_cases hlt : s < W
    · have hz := cP_le q s
      have hdig := Lib.hid (HD.out wr s hlt)
      have hcall := Lib.hid (fun v hv => HC.out v hv s hlt)
      have hdl := HDL.out s
      cases hv : q s with
      | true =>
        have hnx := Lib.hid (cP_hit hv)
        rw [hv] at hcall
        generalize cP q s = z at *
        clear hv
        go_wp2_with fail
        refine hdig.out.mono ?_
        rintro e2 w2 ⟨A2, c2, rfl, own2, hb2⟩
        rw [hdl] at own2 ⊢
        have hb3 := hb.trans (hb2.mono hb.size)
        go_wp2_with fail
        refine (hcall.out _ hb3 A2 c2 (own2.more hb.size)).mono ?_
        rintro e3 w3 ⟨rfl, hb4⟩
        have hb5 := hb3.trans hb4
        clear hb hb2 hb3 hb4 own2
        go_wp2_with fail
        go_roundw
        case rel => exact ⟨s + 1, by omega, by go_num, by rw [hnx.out]; go_num, hb5⟩
        case measure => simp [intOf]; omega
      | false =>
        have hnx := Lib.hid (cP_miss hv)
        rw [hv] at hcall
        generalize cP q s = z at *
        clear hv
        go_wp2_with fail
        refine hdig.out.mono ?_
        rintro e2 w2 ⟨A2, c2, rfl, own2, hb2⟩
        rw [hdl] at own2 ⊢
        have hb3 := hb.trans (hb2.mono hb.size)
        go_wp2_with fail
        refine (hcall.out _ hb3 A2 c2 (own2.more hb.size)).mono ?_
        rintro e3 w3 ⟨rfl, hb4⟩
        have hb5 := hb3.trans hb4
        clear hb hb2 hb3 hb4 own2
        go_wp2_with fail
        go_roundw
        case rel => exact ⟨s + 1, by omega, by go_num, by rw [hnx.out], hb5⟩
        case measure => simp [intOf]; omega
    · obtain rfl : s = W := by omega
      go_wp2_with fail
      go_returns
      exact ⟨rfl, hb⟩

theorem signed_any (t : Nat) (x : Int) (hx : -1000000 ≤ x ∧ x ≤ 1000000) (w : World) :
    Calls Try.prog 105 #[.int .i64 t, .int .i64 x] w fun e w' => e = .returned (.int .i64 (sgn t x)) ∧ w = w' := by
  have htm := mod_nat2 t
  by_cases h : t % 2 = 0
  · have hs : sgn t x = x := by unfold sgn; rw [if_pos h]
    rw [hs]
    rw [h] at htm
    clear h
    go_enter Try.func105, Try.ntmps105
    go_wp2_with fail
    go_returns
    exact ⟨rfl, rfl⟩
  · have hs : sgn t x = -x := by unfold sgn; rw [if_neg h]
    rw [hs]
    rw [show t % 2 = 1 by omega] at htm
    have hw1 : IntKind.i64.wrap (-x) = -x := IntWalk.i64_in _ (by omega)
    clear h
    go_enter Try.func105, Try.ntmps105
    go_wp2_with fail
    go_returns
    exact ⟨by first | rfl | simp [hw1], rfl⟩
theorem signed_is (t : Nat) (x z : Int) (h : sgn t x = z) (hx : -1000000 ≤ x ∧ x ≤ 1000000) (w : World) :
    Calls Try.prog 105 #[.int .i64 t, .int .i64 x] w fun e w' => e = .returned (.int .i64 z) ∧ w = w' := h ▸ signed_any t x hx w
end Go.Proofs.Ytdacfeebidhgnaa

/- Chapter 10 of the program: CountPainted, and sums by a function. -/
namespace Go.Proofs.Ytdacfeebidhgnaa
open Go.RowKit
set_option maxRecDepth 100000

theorem IntsIn.at' {u : World} {B0 b o : Nat} {xs : List Int} (h : IntsIn u B0 (some ⟨b, o, none⟩) xs) {k : Nat} {x : Int} (hk : xs[k]? = some x) : u.cell? ⟨b, o + k, none⟩ = some (.int .i64 x) ∧ b < B0 := by
  obtain ⟨b', off, hA, hb, g1⟩ := h k x hk
  injection hA with hA; injection hA with e1 e2; subst e1 e2
  exact ⟨g1, hb⟩
theorem IntsIn.head {u : World} {B0 : Nat} {B : Option Addr} {xs : List Int} (h : IntsIn u B0 B xs) (h0 : 0 < xs.length) : ∃ b o, B = some ⟨b, o, none⟩ := by
  obtain ⟨b', off, hA, _⟩ := h 0 _ (ints_at h0)
  exact ⟨b', off, hA⟩
theorem digL_get {c s m k : Nat} (h : k < m) : (digL c s m)[k]? = some ((s / c ^ k % c : Nat) : Int) := rowL_get _ h

set_option maxHeartbeats 4000000 in
theorem paintedOk_any (m c s d : Nat) (A B : Option Addr) (cap : Nat) (es : List (Int × Int)) (w : World) (hes : EdgesIn w w.heap.size A es) (hn : netOkB m es = true) (hx : IntsIn w w.heap.size B (digL c s m)) :
    Calls Try.prog 103 #[.agg #[.int .i64 (m : Nat), .slice A es.length cap], .slice B m d] w fun e w' => e = .returned (.bool (paintQ es c s)) ∧ Below w.heap.size w w' := by
  have h6 := (netOkB_iff.1 hn).1
  have h9 := (netOkB_iff.1 hn).2.1
  have HF : Hid (∀ e ∈ es, 1 ≤ e.1 ∧ e.1 < e.2 ∧ e.2 ≤ (m : Int)) := (netOkB_iff.1 hn).2.2
  obtain ⟨gb, go, rfl⟩ := hx.head (by rw [digL_length]; omega)
  have D0 := NetWs.start (n := (m : Int)) (cap := cap) 29 hes hx
  have HG : Hid (∀ k, k < m → (digL c s m)[k]? = some ((s / c ^ k % c : Nat) : Int)) := fun k hk => digL_get hk
  obtain ⟨q, hq⟩ : ∃ q, paintQ es c s = q := ⟨_, rfl⟩
  have HQ : Hid ((es.take es.length).all (difB c s) = q) := by rw [Hid, ← hq, List.take_length]; rfl
  have HQ0 : Hid (∀ k, k ≤ es.length → (es.take k).all (difB c s) = false → q = false) := fun k _ h => by
    rw [← hq]
    unfold paintQ
    rw [← Bool.not_eq_true, List.all_eq_true] at h ⊢
    exact fun hh => h fun e he => hh e (List.mem_of_mem_take he)
  have hm6 : m ≤ 6 := by omega
  rw [hq]
  obtain ⟨⟨_, _, c0, c1, s0⟩, -⟩ := id D0
  clear hes hx hn hq h6
  go_enter Try.func103, Try.ntmps103
  go_wp2_with fail
  go_loopw [10] (fun t wr => ∃ k : Nat, k ≤ es.length ∧ t = .int .i64 (k : Nat) ∧ Hid ((es.take k).all (difB c s) = true) ∧ NetWs w wr m A cap es (some ⟨gb, go, none⟩) (digL c s m)) (fun t _ => es.length - (intOf t).toNat)
  case atStart => exact ⟨0, by omega, rfl, by simp [Hid], D0⟩
  case round =>
    clear D0 c0 c1 s0
    obtain ⟨k, hk, rfl, HA, D⟩ := hrel
    obtain ⟨⟨_, _, c0, c1, s0⟩, hints⟩ := id D
    by_cases hlk : k < es.length
    · obtain ⟨⟨a, b⟩, he⟩ : ∃ e, es[k]? = some e := ⟨_, List.getElem?_eq_getElem hlk⟩
      obtain ⟨g, off, rfl, hgb, g1, g2⟩ := D.1.edges k _ he
      have hfit := HF.out _ (List.mem_of_getElem? he)
      have hX := all_take_next (q := difB c s) he
      rw [HA.out, Bool.true_and] at hX
      simp only at g1 g2 hfit
      obtain ⟨a, rfl⟩ : ∃ a' : Nat, a = (a' + 1 : Nat) := ⟨(a - 1).toNat, by omega⟩
      obtain ⟨b, rfl⟩ : ∃ b' : Nat, b = (b' + 1 : Nat) := ⟨(b - 1).toNat, by omega⟩
      have hd : difB c s (((a + 1 : Nat) : Int), ((b + 1 : Nat) : Int)) = !decide (s / c ^ a % c = s / c ^ b % c) := rfl
      rw [hd] at hX
      obtain ⟨y1, hgl⟩ := hints.at' (HG.out a (by omega))
      obtain ⟨y2, -⟩ := hints.at' (HG.out b (by omega))
      have hgl2 : gb < wr.heap.size := by omega
      have hwa : IntKind.i64.wrap ((a : Int) + 1 - 1) = (a : Int) := by rw [IntWalk.i64_in _ (by omega)]; omega
      have hwb : IntKind.i64.wrap ((b : Int) + 1 - 1) = (b : Int) := by rw [IntWalk.i64_in _ (by omega)]; omega
      have ia : (a : Int) < (m : Int) := by omega
      have ib : (b : Int) < (m : Int) := by omega
      generalize s / c ^ a % c = x at *
      generalize s / c ^ b % c = y at *
      clear hd hints he hfit
      by_cases hxy : x = y
      · rw [decide_eq_true hxy] at hX
        have HV := Lib.hid (HQ0.out (k + 1) (by omega) hX)
        subst hxy
        clear hX
        go_wp2_with fail
        go_quiet (fail)
        go_wp2_with fail
        go_returns
        exact ⟨by rw [HV.out]; first | rfl | simp, belowN (D.1.below.alloc D.1.below.size _) _⟩
      · rw [decide_eq_false hxy] at hX
        have HX := Lib.hid hX
        have hxy1 : ¬ (x : Int) = (y : Int) := by omega
        have hxy2 : ((x : Int) == (y : Int)) = false := beq_eq_false_iff_ne.2 hxy1
        clear hX hxy
        go_wp2_with fail
        go_quiet (fail)
        go_wp2_with fail
        go_roundw
        case rel => exact ⟨k + 1, by omega, by go_num, HX.out, D.on _ (belowN ((Below.refl _ _).alloc (Nat.le_refl _) _) _)⟩
        case measure => simp [intOf]; omega
    · obtain rfl : k = es.length := by omega
      have HV : Hid (q = true) := by rw [Hid, ← HQ.out]; exact HA.out
      go_wp2_with fail
      go_returns
      exact ⟨by rw [HV.out]; first | rfl | simp, D.1.below⟩

set_option maxHeartbeats 2000000 in
theorem paintFn_any (m c s d : Nat) (A B : Option Addr) (cap : Nat) (es : List (Int × Int)) (w u : World) (L : ArgNet w u m A cap es) (hn : netOkB m es = true) (hx : IntsIn u u.heap.size B (digL c s m)) :
    Calls Try.prog 102 #[.slice B m d, .pointer (some ⟨w.heap.size, 0, none⟩)] u fun e w' => e = .returned (.bool (paintQ es c s)) ∧ Below u.heap.size u w' := by
  have HC : Hid (Calls Try.prog 103 #[.agg #[.int .i64 (m : Nat), .slice A es.length cap], .slice B m d] u fun e w' => e = .returned (.bool (paintQ es c s)) ∧ Below u.heap.size u w') := paintedOk_any m c s d A B cap es u L.edges hn hx
  obtain ⟨_, _, c0, c1, s0⟩ := id L
  generalize paintQ es c s = v at *
  clear hn hx
  go_enter Try.func102, Try.ntmps102
  go_wp2_with fail
  refine HC.out.mono ?_
  rintro e1 w1 ⟨rfl, hb1⟩
  go_wp2_with fail
  go_returns
  exact ⟨by first | rfl | simp, hb1⟩

set_option maxHeartbeats 4000000 in
theorem countPainted_any (n c : Int) (A : Option Addr) (cap : Nat) (es : List (Int × Int)) (w : World) (hes : EdgesIn w w.heap.size A es) (hl : es.length ≤ 1048576) :
    Calls Try.prog 42 #[.agg #[.int .i64 n, .slice A es.length cap], .int .i64 c] w fun e w' => e = .returned (.int .i64 (paintI n es c)) ∧ Below w.heap.size w w' := by
  have hmf : ∀ (fn : Fn) (first cap : Array Value) (w : World), (Instr.makeFunc fn first cap).run Try.prog w = .ok (.func fn first cap) w := fun _ _ _ _ => rfl
  have L0 := ArgNet.start (cap := cap) (n := n) 29 hes
  have HN : Hid (∀ u, ArgNet w u n A cap es → Calls Try.prog 37 #[.agg #[.int .i64 n, .slice A es.length cap]] u fun e w' => e = .returned (.bool (netOkB n es)) ∧ Below u.heap.size u w') := fun u h => netOk_any n A cap es u h.edges hl
  obtain ⟨_, _, c0, c1, s0⟩ := id L0
  cases hn : netOkB n es with
  | false =>
    have HV : Hid (paintI n es c = -1) := if_neg (by unfold colOkB; rw [hn]; simp)
    rw [HV.out]
    rw [hn] at HN
    clear hes
    go_enter Try.func42, Try.ntmps42
    go_wp2_with fail
    refine (HN.out _ L0).mono ?_
    rintro e1 w1 ⟨rfl, hb1⟩
    have L1 := L0.step hb1 L0.lt
    go_wp2_with fail
    go_returns
    exact ⟨by first | rfl | simp, L1.below⟩
  | true =>
    rw [hn] at HN
    by_cases hlo : c < 0
    · have HV : Hid (paintI n es c = -1) := if_neg (by unfold colOkB; rw [hn]; simp; omega)
      rw [HV.out]
      clear hes
      go_enter Try.func42, Try.ntmps42
      go_wp2_with fail
      refine (HN.out _ L0).mono ?_
      rintro e1 w1 ⟨rfl, hb1⟩
      have L1 := L0.step hb1 L0.lt
      go_wp2_with fail
      go_returns
      exact ⟨by first | rfl | simp, L1.below⟩
    · by_cases hhi : 4 < c
      · have HV : Hid (paintI n es c = -1) := if_neg (by unfold colOkB; rw [hn]; simp; omega)
        rw [HV.out]
        clear hes
        go_enter Try.func42, Try.ntmps42
        go_wp2_with fail
        refine (HN.out _ L0).mono ?_
        rintro e1 w1 ⟨rfl, hb1⟩
        have L1 := L0.step hb1 L0.lt
        go_wp2_with fail
        go_returns
        exact ⟨by first | rfl | simp, L1.below⟩
      · have h6 := (netOkB_iff.1 hn).1
        obtain ⟨m, rfl⟩ : ∃ m : Nat, n = m := ⟨n.toNat, by omega⟩
        obtain ⟨C, rfl⟩ : ∃ C : Nat, c = C := ⟨c.toNat, by omega⟩
        have hC : C ≤ 4 := by omega
        have HV : Hid (paintI m es C = ((cP (paintQ es C) (C ^ m) : Nat) : Int)) := by
          unfold Hid paintI; rw [if_pos (by unfold colOkB; rw [hn]; simp; omega), Int.toNat_natCast, Int.toNat_natCast]
        have HC : Hid (∀ u, ArgNet w u m A cap es → Calls Try.prog 101 #[.int .i64 m, .int .i64 C, .func (.func 102) #[] #[.pointer (some ⟨w.heap.size, 0, none⟩)]] u fun e w' => e = .returned (.int .i64 (paintI m es C)) ∧ Below u.heap.size u w') := fun u h => by
          rw [HV.out]
          exact countWays_any 102 #[.pointer (some ⟨w.heap.size, 0, none⟩)] (paintQ es C) C m (C ^ m) u hC (by omega) rfl (powN_le hC (by omega)) (fun _ _ => rfl) (fun v hv s _ A' d' ow => (paintFn_any m C s d' A A' cap es w v (h.on _ hv) hn ow.ints).mono fun e w' hh => ⟨hh.1, hh.2.mono hv.size⟩)
        generalize paintI (m : Int) es (C : Int) = z at *
        clear hes hn HV h6
        go_enter Try.func42, Try.ntmps42
        go_wp2_with fail
        refine (HN.out _ L0).mono ?_
        rintro e1 w1 ⟨rfl, hb1⟩
        have L1 := L0.step hb1 L0.lt
        clear c0 c1 s0
        obtain ⟨_, _, c0, c1, s0⟩ := id L1
        go_wp2_with fail
        refine (HC.out _ L1).mono ?_
        rintro e2 w2 ⟨rfl, hb2⟩
        have L2 := L1.step hb2 L1.lt
        go_wp2_with fail
        go_returns
        exact ⟨by first | rfl | simp, L2.below⟩
end Go.Proofs.Ytdacfeebidhgnaa

/- Chapter 10 of the program: PaintedSum, arrows, CountNoBack. -/
namespace Go.Proofs.Ytdacfeebidhgnaa
open Go.RowKit
set_option maxRecDepth 100000

theorem sumS_next (f : Nat → Int) (k : Nat) : sumS f (k + 1) = sumS f k + f k := rfl
theorem sumS_great {f : Nat → Int} {P : Nat} (h : ∀ k, k < P → -100000000000 ≤ f k ∧ f k ≤ 100000000000) : ∀ s : Nat, s ≤ P → -(s * 100000000000) ≤ sumS f s ∧ sumS f s ≤ s * 100000000000
  | 0, _ => by simp [sumS]
  | s + 1, hs => by
    have h1 := sumS_great h s (by omega)
    have h2 := h s (by omega)
    simp only [sumS, Int.natCast_add, Int.natCast_one, Int.add_mul, Int.one_mul]
    omega
theorem sumS_greatP {f : Nat → Int} {P : Nat} (h : ∀ k, k < P → -100000000000 ≤ f k ∧ f k ≤ 100000000000) {s : Nat} (hs : s ≤ P) (hP : P ≤ 512) : -51200000000000 ≤ sumS f s ∧ sumS f s ≤ 51200000000000 := by
  have h1 := sumS_great h s hs
  omega
theorem sum_great {S T U : Int} (hU : U = S + T) (h1 : -51200000000000 ≤ S ∧ S ≤ 51200000000000) (h2 : -100000000000 ≤ T ∧ T ≤ 100000000000) : IntKind.i64.wrap (S + T) = U ∧ wrap64 (S + T) = U := by
  subst hU
  exact ⟨IntWalk.i64_in _ (by omega), by unfold wrap64; omega⟩
set_option maxHeartbeats 2000000 in
/-- The program's sum by a function's value. -/
theorem sumOverG_any (F : FuncId) (caps : Array Value) (f : Nat → Int) (m : Nat) (u : World) (hm : m ≤ 512) (hf : ∀ k, k < m → -100000000000 ≤ f k ∧ f k ≤ 100000000000)
    (hF : ∀ (args : Array Value) (u : World), (callFunc F args).run Try.prog u = .ok (.enter F args) u)
    (HK : ∀ v, Below u.heap.size u v → ∀ k : Nat, k < m → Calls Try.prog F (#[.int .i64 k] ++ caps) v fun e w' => e = .returned (.int .i64 (f k)) ∧ Below v.heap.size v w') :
    Calls Try.prog 84 #[.int .i64 m, .func (.func F) #[] caps] u fun e w' => e = .returned (.int .i64 (sumS f m)) ∧ Below u.heap.size u w' := by
  have HFB := Lib.hid hf
  have HC := Lib.hid HK
  clear hf HK
  go_enter Try.func84, Try.ntmps84
  go_wp2_with fail
  go_loopw [5, 6, 8] (fun v _ t wr => ∃ k : Nat, k ≤ m ∧ t = .int .i64 (k : Nat) ∧ v = .int .i64 (sumS f k) ∧ Below u.heap.size u wr) (fun _ _ t _ => m - (intOf t).toNat)
  case atStart => exact ⟨0, by omega, rfl, rfl, Below.refl _ _⟩
  case round =>
    obtain ⟨k, hk, rfl, rfl, hb⟩ := hrel
    by_cases hlt : k < m
    · have z1 := sumS_greatP HFB.out (show k ≤ m by omega) hm
      have z2 := HFB.out k hlt
      have hcall := HC.out _ hb k hlt
      obtain ⟨x, hx⟩ : ∃ x, sumS f (k + 1) = x := ⟨_, rfl⟩
      obtain ⟨wz1, wz2⟩ := sum_great (hx.symm.trans (sumS_next f k)) z1 z2
      have HX := Lib.hid hx
      clear hx
      generalize sumS f k = y at *
      generalize f k = z at *
      go_wp2_with fail
      refine hcall.mono ?_
      clear hcall
      rintro e1 w1 ⟨rfl, hb1⟩
      have hb2 := hb.trans (hb1.mono hb.size)
      go_wp2_with fail
      go_roundw
      case rel => exact ⟨k + 1, by omega, by go_num, by rw [HX.out], hb2⟩
      case measure => simp [intOf]; omega
    · obtain rfl : k = m := by omega
      go_wp2_with fail
      go_returns
      exact ⟨rfl, hb⟩
theorem sumOverS_any (F : FuncId) (caps : Array Value) (f : Nat → Int) (m : Nat) (u : World) (hm : m ≤ 512) (hf : ∀ k, k < m → -4096 ≤ f k ∧ f k ≤ 4096)
    (hF : ∀ (args : Array Value) (u : World), (callFunc F args).run Try.prog u = .ok (.enter F args) u)
    (HK : ∀ v, Below u.heap.size u v → ∀ k : Nat, k < m → Calls Try.prog F (#[.int .i64 k] ++ caps) v fun e w' => e = .returned (.int .i64 (f k)) ∧ Below v.heap.size v w') :
    Calls Try.prog 84 #[.int .i64 m, .func (.func F) #[] caps] u fun e w' => e = .returned (.int .i64 (sumS f m)) ∧ Below u.heap.size u w' :=
  sumOverG_any F caps f m u hm (fun k hk => by have := hf k hk; omega) hF HK

/-- The boxes of PaintedSum: the net, and a row of powers. -/
def PowAt (w u : World) (n : Int) (A : Option Addr) (cap : Nat) (es : List (Int × Int)) (g : Nat) (b : Nat) (l d : Nat) (xs : List Int) : Prop :=
  ArgNet w u n A cap es ∧ u.cell? ⟨g, 0, none⟩ = some (.slice (some ⟨b, 0, none⟩) l d) ∧ IntsIn u u.heap.size (some ⟨b, 0, none⟩) xs ∧ g < u.heap.size
section
variable {w u : World} {n : Int} {A : Option Addr} {cap g b l d : Nat} {es : List (Int × Int)} {xs : List Int}
theorem PowAt.on (h : PowAt w u n A cap es g b l d xs) : ∀ u', Below u.heap.size u u' → PowAt w u' n A cap es g b l d xs := fun _ hb =>
  ⟨h.1.on _ hb, (hb.cell h.2.2.2).trans h.2.1, (h.2.2.1.below hb (Nat.le_refl _)).more hb.size, Nat.lt_of_lt_of_le h.2.2.2 hb.size⟩
theorem PowAt.drew (h : PowAt w u n A cap es g b l d xs) : PowAt w u.drew n A cap es g b l d xs := h.on _ ((Below.refl _ _).drew)
end
/-- The boxes, in a world behind a given one. -/
def PowIn (w u v : World) (n : Int) (A : Option Addr) (cap : Nat) (es : List (Int × Int)) (g : Nat) (b : Nat) (l d : Nat) (xs : List Int) : Prop := PowAt w v n A cap es g b l d xs ∧ Below u.heap.size u v
theorem PowIn.on {w u v : World} {n : Int} {A : Option Addr} {cap g b l d : Nat} {es : List (Int × Int)} {xs : List Int} (h : PowIn w u v n A cap es g b l d xs) : ∀ v', Below v.heap.size v v' → PowIn w u v' n A cap es g b l d xs := fun _ hb => ⟨h.1.on _ hb, h.2.trans (hb.mono h.2.size)⟩
theorem thereI_pop {n : Int} {es : List (Int × Int)} {s : Int} (h : stateOkB n es s = true) : thereI n es s = ((pop s.toNat : Nat) : Int) := by unfold thereI; rw [h, if_pos rfl]
theorem piecesI_cast {n : Int} {es : List (Int × Int)} {s : Int} (h : stateOkB n es s = true) : piecesI n es s = ((piecesB n es s : Nat) : Int) := (piecesI_lt h).1

set_option maxHeartbeats 4000000 in
theorem paintOne_any (x : Int) (m : Nat) (A : Option Addr) (cap g b d : Nat) (es : List (Int × Int)) (s : Nat) (w u : World) (hl : es.length ≤ 1048576) (hs : stateOkB m es s = true) (h1 : -4 ≤ x) (h2 : x ≤ 4) (D : PowAt w u m A cap es g b (m + 1) d (pwI x m)) :
    Calls Try.prog 104 #[.int .i64 s, .pointer (some ⟨w.heap.size, 0, none⟩), .pointer (some ⟨g, 0, none⟩)] u fun e w' => e = .returned (.int .i64 (paintT m es x s)) ∧ Below u.heap.size u w' := by
  have h9 := stateOkB_lt hs
  have hp6 := pieces_six hs
  have hpm : piecesB m es s ≤ m := by
    have : piecesB m es s ≤ (m : Int).toNat := pcs_le _ _ _ _
    omega
  have HT : Hid (∀ v, PowIn w u v m A cap es g b (m + 1) d (pwI x m) → Calls Try.prog 86 #[.agg #[.int .i64 (m : Nat), .slice A es.length cap], .int .i64 s] v fun e w' => e = .returned (.int .i64 (pop s : Nat)) ∧ Below v.heap.size v w') := fun v h => by
    have := thereOf_any m s A cap es v h.1.1.edges hl
    rwa [thereI_pop hs, Int.toNat_natCast] at this
  have HP : Hid (∀ v, PowIn w u v m A cap es g b (m + 1) d (pwI x m) → Calls Try.prog 49 #[.agg #[.int .i64 (m : Nat), .slice A es.length cap], .int .i64 s] v fun e w' => e = .returned (.int .i64 (piecesB m es s : Nat)) ∧ Below v.heap.size v w') := fun v h => by
    have := piecesIn_any m s A cap es v h.1.1.edges hl
    rwa [piecesI_cast hs] at this
  have hYb := pow6_bound h1 h2 hp6
  have HY : Hid (∀ v, PowAt w v m A cap es g b (m + 1) d (pwI x m) → v.cell? ⟨b, 0 + piecesB m es s, none⟩ = some (.int .i64 (x ^ piecesB m es s))) := fun v h => (h.2.2.1.at' (pwI_get x m hpm)).1
  have hV : sgn (pop s) (x ^ piecesB m es s) = paintT m es x s := rfl
  have HS : Hid (∀ v, Calls Try.prog 105 #[.int .i64 (pop s : Nat), .int .i64 (x ^ piecesB m es s)] v fun e w' => e = .returned (.int .i64 (paintT m es x s)) ∧ v = w') := fun v => signed_is _ _ _ hV (by omega) v
  generalize paintT m es x s = z at *
  generalize x ^ piecesB m es s = Y at *
  generalize piecesB m es s = pb at *
  generalize pop s = t at *
  clear hV hs hp6
  go_enter Try.func104, Try.ntmps104
  go_wp2_with fail
  refine wp_region_class (fun v => PowIn w u v m A cap es g b (m + 1) d (pwI x m)) (by kernel_rfl) (by kernel_rfl) ⟨D.drew, (Below.refl _ _).drew⟩ ?_
  intro X hX f hf hex
  have c0 : ∀ x, (f x).cell? ⟨w.heap.size, 0, none⟩ = some (.int .i64 (m : Nat)) := fun x => (hf x).1.1.c0
  have c1 : ∀ x, (f x).cell? ⟨w.heap.size, 1, none⟩ = some (.slice A es.length cap) := fun x => (hf x).1.1.c1
  have c2 : ∀ x, (f x).cell? ⟨g, 0, none⟩ = some (.slice (some ⟨b, 0, none⟩) (m + 1) d) := fun x => (hf x).1.2.1
  have c3 : ∀ x, (f x).cell? ⟨b, pb, none⟩ = some (.int .i64 Y) := fun x => by have := HY.out _ (hf x).1; rwa [Nat.zero_add] at this
  have ipm : (pb : Int) < (m : Int) + 1 := by omega
  repeat (go_big_quiet_step (first | (go_at_call 86; with_reducible exact class_of hex (HT.out _ (hf _)) (hf _).on) | (go_at_call 49; with_reducible exact class_of hex (HP.out _ (hf _)) (hf _).on) | (go_at_call 105; with_reducible exact class_same (HS.out _))))
  refine wpQuiet_nil ?_
  rintro _ ⟨x, rfl⟩
  have F := (hf x).2
  go_wp2_with fail
  go_returns
  exact ⟨by first | rfl | simp, F⟩

set_option maxHeartbeats 4000000 in
theorem paintedSum_any (n x : Int) (A : Option Addr) (cap : Nat) (es : List (Int × Int)) (w : World) (hes : EdgesIn w w.heap.size A es) (hl : es.length ≤ 1048576) :
    Calls Try.prog 44 #[.agg #[.int .i64 n, .slice A es.length cap], .int .i64 x] w fun e w' => e = .returned (.tuple #[.int .i64 (paintSumI n es x), .bool (sumOkB n es x)]) ∧ Below w.heap.size w w' := by
  have hmf : ∀ (fn : Fn) (first cap : Array Value) (w : World), (Instr.makeFunc fn first cap).run Try.prog w = .ok (.func fn first cap) w := fun _ _ _ _ => rfl
  have L0 := ArgNet.start (cap := cap) (n := n) 29 hes
  have HN : Hid (∀ u, ArgNet w u n A cap es → Calls Try.prog 37 #[.agg #[.int .i64 n, .slice A es.length cap]] u fun e w' => e = .returned (.bool (netOkB n es)) ∧ Below u.heap.size u w') := fun u h => netOk_any n A cap es u h.edges hl
  obtain ⟨_, _, c0, c1, s0⟩ := id L0
  cases hn : netOkB n es with
  | false =>
    have HO : Hid (sumOkB n es x = false) := by unfold Hid sumOkB; rw [hn]; rfl
    have HV : Hid (paintSumI n es x = 0) := if_neg (by rw [HO.out]; simp)
    rw [HV.out, HO.out]
    rw [hn] at HN
    clear hes
    go_enter Try.func44, Try.ntmps44
    go_wp2_with fail
    refine (HN.out _ L0).mono ?_
    rintro e1 w1 ⟨rfl, hb1⟩
    have L1 := L0.step hb1 L0.lt
    go_wp2_with fail
    all_goals first
      | (go_returns; exact ⟨by first | rfl | (simp; done) | (simp; omega), L1.below⟩)
      | (exfalso; omega)
      | (exfalso; simp at *; omega)
  | true =>
    rw [hn] at HN
    by_cases hlo : x < -4
    · have HO : Hid (sumOkB n es x = false) := by unfold Hid sumOkB; rw [hn]; simp; omega
      have HV : Hid (paintSumI n es x = 0) := if_neg (by rw [HO.out]; simp)
      rw [HV.out, HO.out]
      clear hes
      go_enter Try.func44, Try.ntmps44
      go_wp2_with fail
      refine (HN.out _ L0).mono ?_
      rintro e1 w1 ⟨rfl, hb1⟩
      have L1 := L0.step hb1 L0.lt
      go_wp2_with fail
      all_goals first
        | (go_returns; exact ⟨by first | rfl | (simp; done) | (simp; omega), L1.below⟩)
        | (exfalso; omega)
        | (exfalso; simp at *; omega)
    · by_cases hhi : 4 < x
      · have HO : Hid (sumOkB n es x = false) := by unfold Hid sumOkB; rw [hn]; simp; omega
        have HV : Hid (paintSumI n es x = 0) := if_neg (by rw [HO.out]; simp)
        rw [HV.out, HO.out]
        clear hes
        go_enter Try.func44, Try.ntmps44
        go_wp2_with fail
        refine (HN.out _ L0).mono ?_
        rintro e1 w1 ⟨rfl, hb1⟩
        have L1 := L0.step hb1 L0.lt
        go_wp2_with fail
        all_goals first
          | (go_returns; exact ⟨by first | rfl | (simp; done) | (simp; omega), L1.below⟩)
          | (exfalso; omega)
          | (exfalso; simp at *; omega)
      · have h6 := (netOkB_iff.1 hn).1
        have h9 := (netOkB_iff.1 hn).2.1
        have hx1 : -4 ≤ x := by omega
        have hx2 : x ≤ 4 := by omega
        obtain ⟨m, rfl⟩ : ∃ m : Nat, n = m := ⟨n.toNat, by omega⟩
        have hm9 : m ≤ 9 := by omega
        have HO : Hid (sumOkB m es x = true) := by unfold Hid sumOkB; rw [hn]; simp; omega
        obtain ⟨P, hP, p1, p2, hp3, hp4⟩ := pow_named h9
        have HV : Hid (paintSumI m es x = sumS (paintT m es x) P) := by unfold Hid paintSumI; rw [if_pos HO.out, hP]
        have HST : Hid (∀ s : Nat, s < P → stateOkB m es s = true) := fun s hs => state_of hn (by rw [hP]; exact hs)
        have HB : Hid (∀ k, k < P → -4096 ≤ paintT m es x k ∧ paintT m es x k ≤ 4096) := fun k _ => paintT_bound hn hx1 hx2 k
        have HP : Hid (∀ u, Calls Try.prog 83 #[.int .i64 x, .int .i64 m] u (GotInts u (pwI x m))) := fun u => powersI_any x m hx1 hx2 hm9 u
        have HPL := Lib.hid (pwI_length x m)
        have HSC : Hid (∀ u, ArgNet w u m A cap es → Calls Try.prog 82 #[.agg #[.int .i64 (m : Nat), .slice A es.length cap]] u fun e w' => e = .returned (.int .i64 (P : Nat)) ∧ Below u.heap.size u w') := fun u h => by
          have := stateCount_any m A cap es u h9
          rw [hP] at this; exact this
        have HSUM : Hid (∀ (u : World) (g b d : Nat), PowAt w u m A cap es g b (m + 1) d (pwI x m) → Calls Try.prog 84 #[.int .i64 (P : Nat), .func (.func 104) #[] #[.pointer (some ⟨w.heap.size, 0, none⟩), .pointer (some ⟨g, 0, none⟩)]] u fun e w' => e = .returned (.int .i64 (sumS (paintT m es x) P)) ∧ Below u.heap.size u w') := fun u g b d h =>
          sumOverS_any 104 #[.pointer (some ⟨w.heap.size, 0, none⟩), .pointer (some ⟨g, 0, none⟩)] (paintT m es x) P u p2 HB.out (fun _ _ => rfl) (fun v hv k hk => paintOne_any x m A cap g b d es k w v hl (HST.out k hk) hx1 hx2 (h.on _ hv))
        rw [HV.out, HO.out]
        generalize sumS (paintT m es x) P = z at *
        clear hes hn hP h6 HV HST HB
        go_enter Try.func44, Try.ntmps44
        go_wp2_with fail
        refine (HN.out _ L0).mono ?_
        rintro e1 w1 ⟨rfl, hb1⟩
        have L1 := L0.step hb1 L0.lt
        clear c0 c1 s0
        obtain ⟨_, _, c0, c1, s0⟩ := id L1
        go_wp2_with fail
        refine (HP.out _).mono ?_
        rintro e2 w2 ⟨A2, d2, rfl, own2, hb2⟩
        obtain ⟨gb, rfl, hg1, hg2⟩ := pow_row own2 (by rw [HPL.out]; omega)
        rw [HPL.out] at own2 ⊢
        have L2 := L1.step hb2 L1.lt
        clear c0 c1 s0
        obtain ⟨_, _, c0, c1, s0⟩ := id L2
        have D2 : PowAt w (w2.alloc (.cells #[.slice (some ⟨gb, 0, none⟩) (m + 1) d2] 33)) m A cap es w2.heap.size gb (m + 1) d2 (pwI x m) :=
          ⟨L2.step ((Below.refl _ _).alloc (Nat.le_refl _) _) L2.lt, (cel_new w2 _ _).1, (own2.ints.alloc (Nat.le_refl _) _).more (by simp), by simp⟩
        obtain ⟨k1, k2, k3⟩ := cel_new w2 (.slice (some ⟨gb, 0, none⟩) (m + 1) d2) 33
        go_wp2_with fail
        refine (HSC.out _ D2.1).mono ?_
        rintro e3 w3 ⟨rfl, hb3⟩
        have D3 := D2.on _ hb3
        clear c0 c1 s0 k1 k2 k3
        obtain ⟨⟨_, _, c0, c1, s0⟩, k1, k2, k3⟩ := id D3
        go_wp2_with fail
        refine (HSUM.out _ _ _ _ D3).mono ?_
        rintro e4 w4 ⟨rfl, hb4⟩
        have D4 := D3.on _ hb4
        go_wp2_with fail
        go_returns
        exact ⟨by first | rfl | simp, D4.1.below⟩
end Go.Proofs.Ytdacfeebidhgnaa

/- Chapter 10 of the program: FlowsSum. -/
namespace Go.Proofs.Ytdacfeebidhgnaa
open Go.RowKit
set_option maxRecDepth 100000

set_option maxHeartbeats 2000000 in
theorem flowsOk_any (n x : Int) (A : Option Addr) (cap : Nat) (es : List (Int × Int)) (w : World) (hes : EdgesIn w w.heap.size A es) (hl : es.length ≤ 1048576) :
    Calls Try.prog 106 #[.agg #[.int .i64 n, .slice A es.length cap], .int .i64 x] w fun e w' => e = .returned (.bool (flowOkB n es x)) ∧ Below w.heap.size w w' := by
  have L0 := ArgNet.start (cap := cap) (n := n) 29 hes
  have HN : Hid (∀ u, ArgNet w u n A cap es → Calls Try.prog 37 #[.agg #[.int .i64 n, .slice A es.length cap]] u fun e w' => e = .returned (.bool (netOkB n es)) ∧ Below u.heap.size u w') := fun u h => netOk_any n A cap es u h.edges hl
  obtain ⟨_, _, c0, c1, s0⟩ := id L0
  cases hn : netOkB n es with
  | false =>
    have HV : Hid (flowOkB n es x = false) := by unfold Hid flowOkB; rw [hn]; rfl
    rw [HV.out]
    rw [hn] at HN
    clear hes hn
    go_enter Try.func106, Try.ntmps106
    go_wp2_with fail
    refine (HN.out _ L0).mono ?_
    rintro e1 w1 ⟨rfl, hb1⟩
    have L1 := L0.step hb1 L0.lt
    go_wp2_with fail
    all_goals first
      | (go_returns; exact ⟨by first | rfl | (simp; done) | (simp; omega), L1.below⟩)
      | (exfalso; omega)
      | (exfalso; simp at *; omega)
  | true =>
    rw [hn] at HN
    by_cases h6 : es.length ≤ 6
    · have i6 : (es.length : Int) ≤ 6 := by omega
      by_cases h1 : 1 ≤ x
      · by_cases h4 : x ≤ 4
        · have HV : Hid (flowOkB n es x = true) := by unfold Hid flowOkB; rw [hn]; simp; omega
          rw [HV.out]
          clear hes hn
          go_enter Try.func106, Try.ntmps106
          go_wp2_with fail
          refine (HN.out _ L0).mono ?_
          rintro e1 w1 ⟨rfl, hb1⟩
          have L1 := L0.step hb1 L0.lt
          clear c0 c1 s0
          obtain ⟨_, _, c0, c1, s0⟩ := id L1
          go_wp2_with fail
          all_goals first
            | (go_returns; exact ⟨by first | rfl | (simp; done) | (simp; omega), L1.below⟩)
            | (exfalso; omega)
            | (exfalso; simp at *; omega)
        · have HV : Hid (flowOkB n es x = false) := by unfold Hid flowOkB; rw [hn]; simp; omega
          rw [HV.out]
          clear hes hn
          go_enter Try.func106, Try.ntmps106
          go_wp2_with fail
          refine (HN.out _ L0).mono ?_
          rintro e1 w1 ⟨rfl, hb1⟩
          have L1 := L0.step hb1 L0.lt
          clear c0 c1 s0
          obtain ⟨_, _, c0, c1, s0⟩ := id L1
          go_wp2_with fail
          all_goals first
            | (go_returns; exact ⟨by first | rfl | (simp; done) | (simp; omega), L1.below⟩)
            | (exfalso; omega)
            | (exfalso; simp at *; omega)
      · have HV : Hid (flowOkB n es x = false) := by unfold Hid flowOkB; rw [hn]; simp; omega
        rw [HV.out]
        clear hes hn
        go_enter Try.func106, Try.ntmps106
        go_wp2_with fail
        refine (HN.out _ L0).mono ?_
        rintro e1 w1 ⟨rfl, hb1⟩
        have L1 := L0.step hb1 L0.lt
        clear c0 c1 s0
        obtain ⟨_, _, c0, c1, s0⟩ := id L1
        go_wp2_with fail
        all_goals first
          | (go_returns; exact ⟨by first | rfl | (simp; done) | (simp; omega), L1.below⟩)
          | (exfalso; omega)
          | (exfalso; simp at *; omega)
    · have i6 : ¬ (es.length : Int) ≤ 6 := by omega
      have HV : Hid (flowOkB n es x = false) := by unfold Hid flowOkB; rw [hn]; simp; omega
      rw [HV.out]
      clear hes hn
      go_enter Try.func106, Try.ntmps106
      go_wp2_with fail
      refine (HN.out _ L0).mono ?_
      rintro e1 w1 ⟨rfl, hb1⟩
      have L1 := L0.step hb1 L0.lt
      clear c0 c1 s0
      obtain ⟨_, _, c0, c1, s0⟩ := id L1
      go_wp2_with fail
      all_goals first
        | (go_returns; exact ⟨by first | rfl | (simp; done) | (simp; omega), L1.below⟩)
        | (exfalso; omega)
        | (exfalso; simp at *; omega)

/-- The boxes of FlowsSum: the net, the number of edges, and a row of powers. -/
def FlAt (w u : World) (n : Int) (A : Option Addr) (cap : Nat) (es : List (Int × Int)) (h g b : Nat) (l d : Nat) (xs : List Int) : Prop :=
  PowAt w u n A cap es g b l d xs ∧ u.cell? ⟨h, 0, none⟩ = some (.int .i64 es.length) ∧ h < u.heap.size
section
variable {w u : World} {n : Int} {A : Option Addr} {cap h g b l d : Nat} {es : List (Int × Int)} {xs : List Int}
theorem FlAt.on (D : FlAt w u n A cap es h g b l d xs) : ∀ u', Below u.heap.size u u' → FlAt w u' n A cap es h g b l d xs := fun _ hb =>
  ⟨D.1.on _ hb, (hb.cell D.2.2).trans D.2.1, Nat.lt_of_lt_of_le D.2.2 hb.size⟩
theorem FlAt.drew (D : FlAt w u n A cap es h g b l d xs) : FlAt w u.drew n A cap es h g b l d xs := D.on _ ((Below.refl _ _).drew)
end
def FlIn (w u v : World) (n : Int) (A : Option Addr) (cap : Nat) (es : List (Int × Int)) (h g : Nat) (b : Nat) (l d : Nat) (xs : List Int) : Prop := FlAt w v n A cap es h g b l d xs ∧ Below u.heap.size u v
theorem FlIn.on {w u v : World} {n : Int} {A : Option Addr} {cap h g b l d : Nat} {es : List (Int × Int)} {xs : List Int} (D : FlIn w u v n A cap es h g b l d xs) : ∀ v', Below v.heap.size v v' → FlIn w u v' n A cap es h g b l d xs := fun _ hb => ⟨D.1.on _ hb, D.2.trans (hb.mono D.2.size)⟩

set_option maxHeartbeats 4000000 in
theorem flowOne_any (x : Int) (m : Nat) (A : Option Addr) (cap h g b d : Nat) (es : List (Int × Int)) (s : Nat) (w u : World) (hl : es.length ≤ 6) (hn : netOkB m es = true) (hs2 : s < 2 ^ es.length) (h1 : -4 ≤ x) (h2 : x ≤ 4) (D : FlAt w u m A cap es h g b (es.length + 1) d (pwI x es.length)) :
    Calls Try.prog 109 #[.int .i64 s, .pointer (some ⟨w.heap.size, 0, none⟩), .pointer (some ⟨h, 0, none⟩), .pointer (some ⟨g, 0, none⟩)] u fun e w' => e = .returned (.int .i64 (flowT m es x s)) ∧ Below u.heap.size u w' := by
  have hs := state_of hn hs2
  have h9 := stateOkB_lt hs
  obtain ⟨ex, he, he6, hpl, hn2, hn6, hp6⟩ := flow_exp hn hl hs2
  rw [Int.toNat_natCast] at he
  have hl2 : es.length ≤ 1048576 := by omega
  have hpm : piecesB m es s ≤ m := by
    have : piecesB m es s ≤ (m : Int).toNat := pcs_le _ _ _ _
    omega
  have hrank : rankI m es s = ((m - piecesB m es s : Nat) : Int) := by
    unfold rankI; rw [if_pos hs]; omega
  have HT : Hid (∀ v, FlIn w u v m A cap es h g b (es.length + 1) d (pwI x es.length) → Calls Try.prog 86 #[.agg #[.int .i64 (m : Nat), .slice A es.length cap], .int .i64 s] v fun e w' => e = .returned (.int .i64 (pop s : Nat)) ∧ Below v.heap.size v w') := fun v hh => by
    have := thereOf_any m s A cap es v hh.1.1.1.edges hl2
    rwa [thereI_pop hs, Int.toNat_natCast] at this
  have HP : Hid (∀ v, FlIn w u v m A cap es h g b (es.length + 1) d (pwI x es.length) → Calls Try.prog 54 #[.agg #[.int .i64 (m : Nat), .slice A es.length cap], .int .i64 s] v fun e w' => e = .returned (.int .i64 ((m - piecesB m es s : Nat) : Int)) ∧ Below v.heap.size v w') := fun v hh => by
    have := rankOf_any m s A cap es v hh.1.1.1.edges hl2
    rwa [hrank] at this
  have hYb := pow6_bound h1 h2 he6
  have hel : ex ≤ es.length := by omega
  have HY : Hid (∀ v, FlIn w u v m A cap es h g b (es.length + 1) d (pwI x es.length) → v.cell? ⟨b, 0 + ex, none⟩ = some (.int .i64 (x ^ ex))) := fun v hh => (hh.1.1.2.2.1.at' (pwI_get x es.length hel)).1
  have hV : sgn (es.length - pop s) (x ^ ex) = flowT m es x s := by
    unfold flowT
    rw [Int.toNat_natCast, show pop s + piecesB m es s - m = ex by omega]
    exact sgn_par (by omega) _
  have HS : Hid (∀ v, Calls Try.prog 105 #[.int .i64 ((es.length - pop s : Nat) : Int), .int .i64 (x ^ ex)] v fun e w' => e = .returned (.int .i64 (flowT m es x s)) ∧ v = w') := fun v => signed_is _ _ _ hV (by omega) v
  have hw1 : IntKind.i64.wrap ((es.length : Int) - (pop s : Int)) = ((es.length - pop s : Nat) : Int) := by rw [IntWalk.i64_in _ (by omega)]; omega
  have hw2 : IntKind.i64.wrap ((pop s : Int) - ((m - piecesB m es s : Nat) : Int)) = (ex : Int) := by rw [IntWalk.i64_in _ (by omega)]; omega
  generalize flowT m es x s = z at *
  generalize x ^ ex = Y at *
  generalize m - piecesB m es s = rk at *
  generalize es.length - pop s = lk at *
  generalize pop s = t at *
  clear hV hs hp6 he hs2 hrank hpl hn hpm
  obtain ⟨⟨⟨_, _, c0, c1, s0⟩, k1, k2, k3⟩, k4, k5⟩ := id D
  go_enter Try.func109, Try.ntmps109
  go_wp2_with fail
  refine (HT.out _ ⟨D, Below.refl _ _⟩).mono ?_
  rintro e1 w1 ⟨rfl, hb1⟩
  have D1 : FlIn w u w1 m A cap es h g b (es.length + 1) d (pwI x es.length) := ⟨D.on _ hb1, hb1⟩
  clear c0 c1 s0 k1 k2 k3 k4 k5
  go_wp2_with fail
  refine wp_region_class (fun v => FlIn w u v m A cap es h g b (es.length + 1) d (pwI x es.length)) (by kernel_rfl) (by kernel_rfl) ⟨D1.1.drew, D1.2.drew⟩ ?_
  intro X hX f hf hex
  have c0 : ∀ x, (f x).cell? ⟨w.heap.size, 0, none⟩ = some (.int .i64 (m : Nat)) := fun x => (hf x).1.1.1.c0
  have c1 : ∀ x, (f x).cell? ⟨w.heap.size, 1, none⟩ = some (.slice A es.length cap) := fun x => (hf x).1.1.1.c1
  have c2 : ∀ x, (f x).cell? ⟨g, 0, none⟩ = some (.slice (some ⟨b, 0, none⟩) (es.length + 1) d) := fun x => (hf x).1.1.2.1
  have c3 : ∀ x, (f x).cell? ⟨b, ex, none⟩ = some (.int .i64 Y) := fun x => by have := HY.out _ (hf x); rwa [Nat.zero_add] at this
  have c4 : ∀ x, (f x).cell? ⟨h, 0, none⟩ = some (.int .i64 es.length) := fun x => (hf x).1.2.1
  have ipm : (ex : Int) < (es.length : Int) + 1 := by omega
  repeat (go_big_quiet_step (first | (go_at_call 54; with_reducible exact class_of hex (HP.out _ (hf _)) (hf _).on) | (go_at_call 105; with_reducible exact class_same (HS.out _))))
  refine wpQuiet_nil ?_
  rintro _ ⟨x, rfl⟩
  have F := (hf x).2
  go_wp2_with fail
  go_returns
  exact ⟨by first | rfl | simp, F⟩

set_option maxHeartbeats 4000000 in
theorem flowsSum_any (n x : Int) (A : Option Addr) (cap : Nat) (es : List (Int × Int)) (w : World) (hes : EdgesIn w w.heap.size A es) (hl : es.length ≤ 1048576) :
    Calls Try.prog 48 #[.agg #[.int .i64 n, .slice A es.length cap], .int .i64 x] w fun e w' => e = .returned (.tuple #[.int .i64 (flowSumI n es x), .bool (flowOkB n es x)]) ∧ Below w.heap.size w w' := by
  have hmf : ∀ (fn : Fn) (first cap : Array Value) (w : World), (Instr.makeFunc fn first cap).run Try.prog w = .ok (.func fn first cap) w := fun _ _ _ _ => rfl
  have L0 := ArgNet.start (cap := cap) (n := n) 29 hes
  have HN : Hid (∀ u, ArgNet w u n A cap es → Calls Try.prog 106 #[.agg #[.int .i64 n, .slice A es.length cap], .int .i64 x] u fun e w' => e = .returned (.bool (flowOkB n es x)) ∧ Below u.heap.size u w') := fun u h => flowsOk_any n x A cap es u h.edges hl
  obtain ⟨_, _, c0, c1, s0⟩ := id L0
  cases hok : flowOkB n es x with
  | false =>
    have HV : Hid (flowSumI n es x = 0) := if_neg (by rw [hok]; simp)
    rw [HV.out]
    rw [hok] at HN
    clear hes hok
    go_enter Try.func48, Try.ntmps48
    go_wp2_with fail
    refine (HN.out _ L0).mono ?_
    rintro e1 w1 ⟨rfl, hb1⟩
    have L1 := L0.step hb1 L0.lt
    go_wp2_with fail
    go_returns
    exact ⟨by first | rfl | simp, L1.below⟩
  | true =>
    rw [hok] at HN
    obtain ⟨hn, h6l, hx0, hx2⟩ : netOkB n es = true ∧ es.length ≤ 6 ∧ 1 ≤ x ∧ x ≤ 4 := by simpa [flowOkB] using hok
    have hx1 : -4 ≤ x := by omega
    have h6 := (netOkB_iff.1 hn).1
    obtain ⟨m, rfl⟩ : ∃ m : Nat, n = m := ⟨n.toNat, by omega⟩
    obtain ⟨P, hP, p1, p2, hp3, hp4⟩ := pow_named (show es.length ≤ 9 by omega)
    have HV : Hid (flowSumI m es x = sumS (flowT m es x) P) := by unfold Hid flowSumI; rw [if_pos hok, hP]
    have HB : Hid (∀ k, k < P → -4096 ≤ flowT m es x k ∧ flowT m es x k ≤ 4096) := fun k hk => flowT_bound hn h6l hx1 hx2 (by rw [hP]; exact hk)
    have HP : Hid (∀ u, Calls Try.prog 83 #[.int .i64 x, .int .i64 es.length] u (GotInts u (pwI x es.length))) := fun u => powersI_any x es.length hx1 hx2 (by omega) u
    have HPL := Lib.hid (pwI_length x es.length)
    have HSC : Hid (∀ u, ArgNet w u m A cap es → Calls Try.prog 82 #[.agg #[.int .i64 (m : Nat), .slice A es.length cap]] u fun e w' => e = .returned (.int .i64 (P : Nat)) ∧ Below u.heap.size u w') := fun u h => by
      have := stateCount_any m A cap es u (by omega)
      rw [hP] at this; exact this
    have HSUM : Hid (∀ (u : World) (h g b d : Nat), FlAt w u m A cap es h g b (es.length + 1) d (pwI x es.length) → Calls Try.prog 84 #[.int .i64 (P : Nat), .func (.func 109) #[] #[.pointer (some ⟨w.heap.size, 0, none⟩), .pointer (some ⟨h, 0, none⟩), .pointer (some ⟨g, 0, none⟩)]] u fun e w' => e = .returned (.int .i64 (sumS (flowT m es x) P)) ∧ Below u.heap.size u w') := fun u h g b d hh =>
      sumOverS_any 109 #[.pointer (some ⟨w.heap.size, 0, none⟩), .pointer (some ⟨h, 0, none⟩), .pointer (some ⟨g, 0, none⟩)] (flowT m es x) P u p2 HB.out (fun _ _ => rfl) (fun v hv k hk => flowOne_any x m A cap h g b d es k w v h6l hn (by rw [hP]; exact hk) hx1 hx2 (hh.on _ hv))
    rw [HV.out]
    generalize sumS (flowT m es x) P = z at *
    clear hes hn hP h6 HV HB hok
    go_enter Try.func48, Try.ntmps48
    go_wp2_with fail
    refine (HN.out _ L0).mono ?_
    rintro e1 w1 ⟨rfl, hb1⟩
    have L1 := L0.step hb1 L0.lt
    clear c0 c1 s0
    obtain ⟨_, _, c0, c1, s0⟩ := id L1
    have L2 := L1.step ((Below.refl w1.heap.size w1).alloc (Nat.le_refl _) (.cells #[.int .i64 es.length] 3)) L1.lt
    obtain ⟨k1, k2, k3⟩ := cel_new w1 (.int .i64 es.length) 3
    go_wp2_with fail
    refine (HP.out _).mono ?_
    rintro e2 w2 ⟨A2, d2, rfl, own2, hb2⟩
    obtain ⟨gb, rfl, hg1, hg2⟩ := pow_row own2 (by rw [HPL.out]; omega)
    rw [HPL.out] at own2 ⊢
    obtain ⟨k1', k2', k3'⟩ := cel_on hb2 k1 k2 k3
    have L3 := L2.step hb2 L2.lt
    clear c0 c1 s0 k1 k2 k3
    obtain ⟨_, _, c0, c1, s0⟩ := id L3
    have D2 : FlAt w (w2.alloc (.cells #[.slice (some ⟨gb, 0, none⟩) (es.length + 1) d2] 33)) m A cap es w1.heap.size w2.heap.size gb (es.length + 1) d2 (pwI x es.length) :=
      ⟨⟨L3.step ((Below.refl _ _).alloc (Nat.le_refl _) _) L3.lt, (cel_new w2 _ _).1, (own2.ints.alloc (Nat.le_refl _) _).more (by simp), by simp⟩, (cel_alloc _ k1' k2' k3').1, (cel_alloc _ k1' k2' k3').2.2⟩
    obtain ⟨j1, j2, j3⟩ := cel_new w2 (.slice (some ⟨gb, 0, none⟩) (es.length + 1) d2) 33
    go_wp2_with fail
    refine (HSC.out _ D2.1.1).mono ?_
    rintro e3 w3 ⟨rfl, hb3⟩
    have D3 := D2.on _ hb3
    clear c0 c1 s0 j1 j2 j3 k1' k2' k3'
    obtain ⟨⟨⟨_, _, c0, c1, s0⟩, k1, k2, k3⟩, k4, k5⟩ := id D3
    go_wp2_with fail
    refine (HSUM.out _ _ _ _ _ D3).mono ?_
    rintro e4 w4 ⟨rfl, hb4⟩
    have D4 := D3.on _ hb4
    go_wp2_with fail
    go_returns
    exact ⟨by first | rfl | simp, D4.1.1.below⟩
end Go.Proofs.Ytdacfeebidhgnaa
