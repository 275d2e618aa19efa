/- Sets counted by their size: countSets of the program, at each function that tells which ones work. -/
import Derived.Test.YtdacfeebidhgnabBothL
import Derived.Test.YtdacfeebidhgnabBits7
namespace Go.Proofs.Ytdacfeebidhgnab
open Go.RowKit
set_option maxRecDepth 100000

theorem all13 {p : Nat → Prop} [DecidablePred p] (h0 : allTo (fun s => decide (p s)) 10 0 = true) (h1 : allTo (fun s => decide (p s)) 10 1024 = true) (h2 : allTo (fun s => decide (p s)) 10 2048 = true) (h3 : allTo (fun s => decide (p s)) 10 3072 = true)
    (h4 : allTo (fun s => decide (p s)) 10 4096 = true) (h5 : allTo (fun s => decide (p s)) 10 5120 = true) (h6 : allTo (fun s => decide (p s)) 10 6144 = true) (h7 : allTo (fun s => decide (p s)) 10 7168 = true) : ∀ s, s < 8192 → p s := by
  intro s hs
  have go : ∀ b, allTo (fun s => decide (p s)) 10 b = true → b ≤ s → s < b + 1024 → p s := fun b hb l1 l2 => by
    have := (allTo_iff 10 b).1 hb (s - b) (by omega)
    rw [show b + (s - b) = s by omega] at this
    exact of_decide_eq_true this
  by_cases l1 : s < 1024
  · exact go _ h0 (by omega) (by omega)
  by_cases l2 : s < 2048
  · exact go _ h1 (by omega) (by omega)
  by_cases l3 : s < 3072
  · exact go _ h2 (by omega) (by omega)
  by_cases l4 : s < 4096
  · exact go _ h3 (by omega) (by omega)
  by_cases l5 : s < 5120
  · exact go _ h4 (by omega) (by omega)
  by_cases l6 : s < 6144
  · exact go _ h5 (by omega) (by omega)
  by_cases l7 : s < 7168
  · exact go _ h6 (by omega) (by omega)
  exact go _ h7 (by omega) (by omega)
theorem popF_add {m s : Nat} (h : s < 2 ^ m) : ∀ d, popF (m + d) s = popF m s
  | 0 => rfl
  | d + 1 => (popF_succ (m + d) s (Nat.lt_of_lt_of_le h (Nat.pow_le_pow_right (by omega) (by omega)))).trans (popF_add h d)
theorem pop_low13 {s m : Nat} (h : s < 2 ^ m) (hm : m ≤ 13) : pop s ≤ m := by
  have := popF_add h (64 - m)
  rw [show m + (64 - m) = 64 by omega] at this
  unfold pop; rw [this]; exact popF_le _ _
/-- The masks of OnesCount64, over numbers below 8192. -/
theorem size13_any (s : Nat) (w : World) (hs : s < 8192) :
    Calls Try.prog 126 #[.int .u64 s] w fun e w' => e = .returned (.int .i64 (pop s)) ∧ w = w' := by
  have hp : pop s = popF 13 s := popF_add (m := 13) hs 51
  rw [hp]
  clear hp
  go_enter Try.func126, Try.ntmps126
  go_wp2
  go_returns
  refine ⟨retI ?_, rfl⟩
  rename_i htrue
  clear htrue w
  revert s
  exact all13 (by decide +kernel) (by decide +kernel) (by decide +kernel) (by decide +kernel) (by decide +kernel) (by decide +kernel) (by decide +kernel) (by decide +kernel)

set_option maxHeartbeats 4000000 in
theorem setsWhole_any (b0 m : Nat) (q : Nat → Bool) (u : World) (hm : m ≤ 13)
    (HK : ∀ v, Below u.heap.size u v → ∀ s : Nat, s < 2 ^ m → Calls Try.prog 105 #[.int .i64 s, .pointer (some ⟨b0, 0, none⟩)] v fun e w' => e = .returned (.bool (q s)) ∧ Below v.heap.size v w') :
    Calls Try.prog 138 #[.int .i64 m, .func (.func 105) #[] #[.pointer (some ⟨b0, 0, none⟩)]] u (GotInts u (cntR q (2 ^ m) (m + 1))) := by
  obtain ⟨P, hP, p1, p2, hp3, hp4⟩ := pow_named12 hm
  rw [hP] at HK ⊢
  have HP := Lib.hid hP
  have HC := Lib.hid HK
  clear hP HK
  obtain ⟨i0, hi0, hz0, hz1, hz2⟩ := info_parts int_info
  have hwm : IntKind.i64.wrap ((m : Int) + 1) = ((m + 1 : Nat) : Int) := by rw [IntWalk.i64_in _ (by omega)]; omega
  go_enter Try.func138, Try.ntmps138
  go_wp2_with (at_make; refine wpList_make_full _ rfl _ _ 34 rfl u.heap.size 3 i0 _ 1 Try.underlying34 hi0 hz0 hz1 .i64 .i64 (m + 1) (m + 1) (m + 1) rfl rfl rfl rfl (by rw [hz2]; omega) (by simp [maxLen]; omega) (by simp) ?_; intro w2 hown2 hg2; have hb2 : Below u.heap.size u w2 := (Below.refl _ _).grown hg2 (by simp) (by simp))
  have hst : OwnI w2 u.heap.size (.slice (some ⟨u.heap.size, 0, none⟩) (m + 1) (m + 1)) (cntR q 0 (m + 1)) := by
    rw [cntR_zero]
    unfold OwnI; rw [List.length_replicate, ← madeCells_ints]; exact hown2
  clear hown2 hg2 hz1 hz2 hi0 hz0
  go_loopw [6, 12] (fun _ t wr => ∃ s : Nat, s ≤ P ∧ t = .int .i64 (s : Nat) ∧ OwnI wr u.heap.size (.slice (some ⟨u.heap.size, 0, none⟩) (m + 1) (m + 1)) (cntR q s (m + 1)) ∧ Below u.heap.size u wr) (fun _ t _ => P - (intOf t).toNat)
  case atStart => exact ⟨0, by omega, rfl, hst, hb2⟩
  case round =>
    clear hst hb2
    obtain ⟨s, hs, rfl, own, hb⟩ := hrel
    by_cases hlt : s < P
    · have hpl : Hid (pop s ≤ m) := pop_low13 (by rw [HP.out]; exact hlt) hm
      have hcall := HC.out wr hb s hlt
      cases hv : q s with
      | true =>
        rw [hv] at hcall
        go_wp2_with fail
        refine hcall.mono ?_
        clear hcall
        rintro e4 w4 ⟨rfl, hb4⟩
        have own4 := own.below hb4 own.lt
        have hb5 := hb.trans (hb4.mono hb.size)
        clear own hb4 hb
        have hhit := Lib.hid (cntR_hit (m := m + 1) hv)
        have hpl := hpl.out
        have hcz := cntS_le q s (pop s)
        obtain ⟨x1, f1⟩ := own4.slot (k := pop s) (by omega)
        rw [cntR_getD q s (show pop s < m + 1 by omega)] at x1
        have hst := own4.store (pop s) ((cntS q s (pop s) : Nat) + 1)
        rw [hhit.out] at hst
        have HS := Lib.hid hst
        clear own4 hst hhit hv
        have wz : IntKind.i64.wrap (((cntS q s (pop s) : Nat) : Int) + 1) = ((cntS q s (pop s) : Nat) : Int) + 1 := IntWalk.i64_in _ (by omega)
        have hM : ∀ v, Calls Try.prog 126 #[.int .u64 s] v fun e w' => e = .returned (.int .i64 (pop s)) ∧ v = w' := fun v => size13_any s v (by omega)
        generalize cntS q s (pop s) = z at *
        generalize pop s = x at *
        go_wp2_with fail
        refine (hM _).mono ?_
        rintro e5 w5 ⟨rfl, rfl⟩
        go_wp2_with fail
        go_roundw
        case rel => exact ⟨s + 1, by omega, by go_num, HS.out, hb5.setCell (by simp) _⟩
        case measure => simp [intOf]; omega
      | false =>
        rw [hv] at hcall
        go_wp2_with fail
        refine hcall.mono ?_
        clear hcall
        rintro e4 w4 ⟨rfl, hb4⟩
        have own4 := own.below hb4 own.lt
        have hb5 := hb.trans (hb4.mono hb.size)
        clear own hb4 hb
        rw [← cntR_miss (m := m + 1) hv] at own4
        clear hv
        go_wp2_with fail
        go_roundw
        case rel => exact ⟨s + 1, by omega, by go_num, own4, hb5⟩
        case measure => simp [intOf]; omega
    · obtain rfl : s = P := by omega
      go_wp2_with fail
      go_returns
      exact ⟨some ⟨u.heap.size, 0, none⟩, m + 1, by rw [cntR_length]; rfl, by rw [cntR_length]; exact own.more (by omega), hb⟩

set_option maxHeartbeats 4000000 in
theorem setsForest_any (b0 m : Nat) (q : Nat → Bool) (u : World) (hm : m ≤ 13)
    (HK : ∀ v, Below u.heap.size u v → ∀ s : Nat, s < 2 ^ m → Calls Try.prog 81 #[.int .i64 s, .pointer (some ⟨b0, 0, none⟩)] v fun e w' => e = .returned (.bool (q s)) ∧ Below v.heap.size v w') :
    Calls Try.prog 138 #[.int .i64 m, .func (.func 81) #[] #[.pointer (some ⟨b0, 0, none⟩)]] u (GotInts u (cntR q (2 ^ m) (m + 1))) := by
  obtain ⟨P, hP, p1, p2, hp3, hp4⟩ := pow_named12 hm
  rw [hP] at HK ⊢
  have HP := Lib.hid hP
  have HC := Lib.hid HK
  clear hP HK
  obtain ⟨i0, hi0, hz0, hz1, hz2⟩ := info_parts int_info
  have hwm : IntKind.i64.wrap ((m : Int) + 1) = ((m + 1 : Nat) : Int) := by rw [IntWalk.i64_in _ (by omega)]; omega
  go_enter Try.func138, Try.ntmps138
  go_wp2_with (at_make; refine wpList_make_full _ rfl _ _ 34 rfl u.heap.size 3 i0 _ 1 Try.underlying34 hi0 hz0 hz1 .i64 .i64 (m + 1) (m + 1) (m + 1) rfl rfl rfl rfl (by rw [hz2]; omega) (by simp [maxLen]; omega) (by simp) ?_; intro w2 hown2 hg2; have hb2 : Below u.heap.size u w2 := (Below.refl _ _).grown hg2 (by simp) (by simp))
  have hst : OwnI w2 u.heap.size (.slice (some ⟨u.heap.size, 0, none⟩) (m + 1) (m + 1)) (cntR q 0 (m + 1)) := by
    rw [cntR_zero]
    unfold OwnI; rw [List.length_replicate, ← madeCells_ints]; exact hown2
  clear hown2 hg2 hz1 hz2 hi0 hz0
  go_loopw [6, 12] (fun _ t wr => ∃ s : Nat, s ≤ P ∧ t = .int .i64 (s : Nat) ∧ OwnI wr u.heap.size (.slice (some ⟨u.heap.size, 0, none⟩) (m + 1) (m + 1)) (cntR q s (m + 1)) ∧ Below u.heap.size u wr) (fun _ t _ => P - (intOf t).toNat)
  case atStart => exact ⟨0, by omega, rfl, hst, hb2⟩
  case round =>
    clear hst hb2
    obtain ⟨s, hs, rfl, own, hb⟩ := hrel
    by_cases hlt : s < P
    · have hpl : Hid (pop s ≤ m) := pop_low13 (by rw [HP.out]; exact hlt) hm
      have hcall := HC.out wr hb s hlt
      cases hv : q s with
      | true =>
        rw [hv] at hcall
        go_wp2_with fail
        refine hcall.mono ?_
        clear hcall
        rintro e4 w4 ⟨rfl, hb4⟩
        have own4 := own.below hb4 own.lt
        have hb5 := hb.trans (hb4.mono hb.size)
        clear own hb4 hb
        have hhit := Lib.hid (cntR_hit (m := m + 1) hv)
        have hpl := hpl.out
        have hcz := cntS_le q s (pop s)
        obtain ⟨x1, f1⟩ := own4.slot (k := pop s) (by omega)
        rw [cntR_getD q s (show pop s < m + 1 by omega)] at x1
        have hst := own4.store (pop s) ((cntS q s (pop s) : Nat) + 1)
        rw [hhit.out] at hst
        have HS := Lib.hid hst
        clear own4 hst hhit hv
        have wz : IntKind.i64.wrap (((cntS q s (pop s) : Nat) : Int) + 1) = ((cntS q s (pop s) : Nat) : Int) + 1 := IntWalk.i64_in _ (by omega)
        have hM : ∀ v, Calls Try.prog 126 #[.int .u64 s] v fun e w' => e = .returned (.int .i64 (pop s)) ∧ v = w' := fun v => size13_any s v (by omega)
        generalize cntS q s (pop s) = z at *
        generalize pop s = x at *
        go_wp2_with fail
        refine (hM _).mono ?_
        rintro e5 w5 ⟨rfl, rfl⟩
        go_wp2_with fail
        go_roundw
        case rel => exact ⟨s + 1, by omega, by go_num, HS.out, hb5.setCell (by simp) _⟩
        case measure => simp [intOf]; omega
      | false =>
        rw [hv] at hcall
        go_wp2_with fail
        refine hcall.mono ?_
        clear hcall
        rintro e4 w4 ⟨rfl, hb4⟩
        have own4 := own.below hb4 own.lt
        have hb5 := hb.trans (hb4.mono hb.size)
        clear own hb4 hb
        rw [← cntR_miss (m := m + 1) hv] at own4
        clear hv
        go_wp2_with fail
        go_roundw
        case rel => exact ⟨s + 1, by omega, by go_num, own4, hb5⟩
        case measure => simp [intOf]; omega
    · obtain rfl : s = P := by omega
      go_wp2_with fail
      go_returns
      exact ⟨some ⟨u.heap.size, 0, none⟩, m + 1, by rw [cntR_length]; rfl, by rw [cntR_length]; exact own.more (by omega), hb⟩

end Go.Proofs.Ytdacfeebidhgnab
