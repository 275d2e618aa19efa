/- The least of a list of states: the program's. -/
import Derived.Test.YtlcgbmeneajfoaaImpl8
import Derived.Test.YtlcgbmeneajfoaaSorted
import Derived.Test.YtlcgbmeneajfoaaSpec8c
namespace Go.Proofs.Ytlcgbmeneajfoaa
open Go.RowKit
set_option maxRecDepth 100000

theorem some1_any (s p g : Nat) (u : World) (hc : u.cell? ⟨g, 0, none⟩ = some (.int .i64 s)) (hs : s ≤ 8192) (hp : p ≤ 8192) :
    Calls Try.prog 79 #[.int .i64 p, .pointer (some ⟨g, 0, none⟩)] u fun e w' => e = .returned (.bool (decide (s &&& p = p))) ∧ Below u.heap.size u w' := by
  have H := Lib.hid (hasAll_any s p hs hp u)
  generalize decide (s &&& p = p) = v at *
  go_enter Try.func79, Try.ntmps79
  go_wp2_with fail
  refine H.out.mono ?_
  rintro e1 w1 ⟨rfl, rfl⟩
  go_wp2_with fail
  go_returns
  exact ⟨rfl, Below.refl _ _⟩

theorem some_fam (s : Nat) (ls : List Nat) : (natI ls).any (fun x => decide (s &&& x.toNat = x.toNat)) = famB ls s := by
  unfold natI famB
  rw [List.any_map]
  congr 1
  funext p
  show decide (s &&& p = p) = decide (p &&& s = p)
  rw [Nat.and_comm]

theorem hasSome_any (s : Nat) (A : Option Addr) (cap : Nat) (ls : List Nat) (w : World) (hin : IntsIn w w.heap.size A (natI ls)) (hl : ls.length ≤ 1048576) (hls : ∀ x ∈ ls, x ≤ 8192) (hs : s ≤ 8192) :
    Calls Try.prog 51 #[.int .i64 s, .slice A ls.length cap] w fun e w' => e = .returned (.bool (famB ls s)) ∧ Below w.heap.size w w' := by
  have hmf : ∀ (fn : Fn) (first cap : Array Value) (w : World), (Instr.makeFunc fn first cap).run Try.prog w = .ok (.func fn first cap) w := fun _ _ _ _ => rfl
  have hb := (Below.refl w.heap.size w).alloc (Nat.le_refl _) (.cells #[.int .i64 s] 3)
  have HC := containsFunc_any 79 #[.pointer (some ⟨w.heap.size, 0, none⟩)] (fun x => decide (s &&& x.toNat = x.toNat)) A cap (natI ls) (w.alloc (.cells #[.int .i64 s] 3)) ((hin.alloc (Nat.le_refl _) _).more (by simp)) (by rw [natI_length]; simp [maxLen]; omega)
    (fun _ _ => rfl) (fun u hu x hx => by
      obtain ⟨p, hp, rfl⟩ := List.mem_map.1 hx
      exact some1_any s p w.heap.size u ((hu.cell (p := ⟨w.heap.size, 0, none⟩) (by simp)).trans (by rw [World.cell?_alloc_at _ _ _ _ rfl]; rfl)) hs (hls p hp))
  rw [natI_length, some_fam] at HC
  have HC := Lib.hid HC
  generalize famB ls s = v at *
  generalize ls.length = m at *
  go_enter Try.func51, Try.ntmps51
  go_wp2_with fail
  refine HC.out.mono ?_
  rintro e1 w1 ⟨rfl, hb1⟩
  go_wp2_with fail
  go_returns
  exact ⟨rfl, hb.trans (hb1.mono (by simp))⟩

theorem other_any (s p g : Nat) (u : World) (hc : u.cell? ⟨g, 0, none⟩ = some (.int .i64 s)) :
    Calls Try.prog 78 #[.int .i64 p, .pointer (some ⟨g, 0, none⟩)] u fun e w' => e = .returned (.bool (!decide (p = s))) ∧ Below u.heap.size u w' := by
  by_cases h : p = s
  · subst h
    rw [decide_eq_true rfl]
    go_enter Try.func78, Try.ntmps78
    go_wp2_with fail
    go_returns
    exact ⟨retB (by simp), Below.refl _ _⟩
  · rw [decide_eq_false h]
    have h3 : ((p : Int) == (s : Int)) = false := by simp; omega
    go_enter Try.func78, Try.ntmps78
    go_wp2_with fail
    go_returns
    exact ⟨retB (by simp; omega), Below.refl _ _⟩

theorem more_fam (ks : List Nat) (s : Nat) : famB (ks.filter fun o => !decide (o = s)) s = moreB ks s := by
  unfold moreB famB
  congr 1
  funext p
  rw [Nat.and_comm]

set_option maxHeartbeats 1000000 in
theorem leastOne_any (s g : Nat) (A : Option Addr) (c : Nat) (ks : List Nat) (u : World) (hc : u.cell? ⟨g, 0, none⟩ = some (.slice A ks.length c)) (hg : g < u.heap.size) (hin : IntsIn u u.heap.size A (natI ks)) (hl : ks.length ≤ 4096) (hks : ∀ x ∈ ks, x ≤ 8192) (hs : s ≤ 8192) :
    Calls Try.prog 77 #[.int .i64 s, .pointer (some ⟨g, 0, none⟩)] u fun e w' => e = .returned (.bool (!moreB ks s)) ∧ Below u.heap.size u w' := by
  have hmf : ∀ (fn : Fn) (first cap : Array Value) (w : World), (Instr.makeFunc fn first cap).run Try.prog w = .ok (.func fn first cap) w := fun _ _ _ _ => rfl
  have hb := (Below.refl u.heap.size u).alloc (Nat.le_refl _) (.cells #[.int .i64 s] 3)
  have c0 : (u.alloc (.cells #[.int .i64 s] 3)).cell? ⟨u.heap.size, 0, none⟩ = some (.int .i64 s) := by rw [World.cell?_alloc_at _ _ _ _ rfl]; rfl
  have c1 := (hb.cell (p := ⟨g, 0, none⟩) hg).trans hc
  have HS := sieve_any 78 #[.pointer (some ⟨u.heap.size, 0, none⟩)] (fun x => !decide (x.toNat = s)) A c (natI ks) (u.alloc (.cells #[.int .i64 s] 3)) ((hin.alloc (Nat.le_refl _) _).more (by simp)) (by rw [natI_length]; omega)
    (fun _ _ => rfl) (fun v hv x hx => by
      obtain ⟨p, hp, rfl⟩ := List.mem_map.1 hx
      exact other_any s p u.heap.size v ((hv.cell (p := ⟨u.heap.size, 0, none⟩) (by simp)).trans c0))
  rw [natI_length, natI_filter] at HS
  have ef : (ks.filter fun x : Nat => !decide (((x : Nat) : Int).toNat = s)) = ks.filter fun o => !decide (o = s) := rfl
  rw [ef] at HS
  have HM := Lib.hid (more_fam ks s)
  have hlf : (ks.filter fun o => !decide (o = s)).length ≤ 4096 := Nat.le_trans (List.length_filter_le _ _) hl
  have hkf : ∀ x ∈ (ks.filter fun o => !decide (o = s)), x ≤ 8192 := fun x hx => hks x (List.mem_filter.1 hx).1
  generalize (ks.filter fun o => !decide (o = s)) = fs at *
  have HS := Lib.hid HS
  have HC0 := Lib.hid c0
  clear c0 ef
  generalize moreB ks s = v at *
  generalize ks.length = m at *
  go_enter Try.func77, Try.ntmps77
  go_wp2_with fail
  refine HS.out.mono ?_
  rintro e1 w1 ⟨A1, k1, rfl, own1, hb1⟩
  have d0 := (hb1.cell (p := ⟨u.heap.size, 0, none⟩) (by simp)).trans HC0.out
  have hi1 := own1.ints
  have hb2 := hb.trans (hb1.mono (by simp))
  rw [natI_length]
  have HH := Lib.hid (hasSome_any s A1 k1 fs w1 hi1 (by omega) hkf hs)
  rw [HM.out] at HH
  clear own1 hi1 HS hb1 hb c1
  go_wp2_with fail
  refine HH.out.mono ?_
  rintro e2 w2 ⟨rfl, hb3⟩
  go_wp2_with fail
  go_returns
  exact ⟨rfl, hb2.trans (hb3.mono hb2.size)⟩

theorem kept_filter (ks : List Nat) : (natI ks).filter (fun x => !moreB ks x.toNat) = natI (keptN ks) := by
  rw [natI_filter]; rfl

set_option maxHeartbeats 2000000 in
/-- The program's least states of a list. -/
theorem leastOf_any (T : Nat) (A : Option Addr) (cap : Nat) (ls : List Nat) (w : World) (hT : T ≤ 9) (hin : IntsIn w w.heap.size A (natI ls)) (hl : ls.length ≤ 1048576) (hls : ∀ x ∈ ls, x < 2 ^ T) :
    Calls Try.prog 48 #[.slice A ls.length cap] w (GotInts w (natI (famOf T ls))) := by
  have hmf : ∀ (fn : Fn) (first cap : Array Value) (w : World), (Instr.makeFunc fn first cap).run Try.prog w = .ok (.func fn first cap) w := fun _ _ _ _ => rfl
  have h512 : ∀ x ∈ ls, x ≤ 8192 := fun x hx => by
    have h1 := hls x hx
    have h2 : 2 ^ T ≤ 2 ^ 9 := Nat.pow_le_pow_right (by omega) hT
    omega
  obtain ⟨ks, hk, hkl, hks, hkm⟩ := once_nat ls
  have HK := Lib.hid (kept_least hT hls hks hkm)
  have hk5 : ks.length ≤ 512 := by
    have h1 := asc_len ks 0 (2 ^ T) hks (fun x hx => ⟨Nat.zero_le _, hls x ((hkm x).1 hx)⟩) (Nat.zero_le _)
    have h2 : 2 ^ T ≤ 2 ^ 9 := Nat.pow_le_pow_right (by omega) hT
    omega
  have hk8 : ∀ x ∈ ks, x ≤ 8192 := fun x hx => h512 x ((hkm x).1 hx)
  have HV : Hid (∀ u, Calls Try.prog 76 #[.slice A ls.length cap] u fun e w' => e = .returned (.func (.func 88) #[] #[.pointer (some ⟨u.heap.size, 0, none⟩)]) ∧ w' = u.alloc (.cells #[.slice A ls.length cap] 22)) := fun u =>
    callsIn_wide.1 (vals_any Fence.wide 1 trivial rfl A ls.length cap u)
  have hb0 := (Below.refl w.heap.size w).alloc (Nat.le_refl _) (.cells #[.slice A ls.length cap] 22)
  have HS := sorted_any w.heap.size cap A (natI ls) (by rw [natI_length]; omega) (w.alloc (.cells #[.slice A ls.length cap] 22)) (by simp) (by rw [World.cell?_alloc_at _ _ _ _ rfl, natI_length]; rfl) ((hin.alloc (Nat.le_refl _) _).more (by simp))
  have HS := Lib.hid HS
  have HL : Hid ((sortI (natI ls)).length ≤ 1048576) := by rw [Hid, sortI_len, natI_length]; exact hl
  have HKE := Lib.hid hk
  clear hk hin
  generalize ls.length = m at *
  go_enter Try.func48, Try.ntmps48
  go_wp2_with fail
  refine (HV.out _).mono ?_
  rintro e1 w1 ⟨rfl, rfl⟩
  go_wp2_with fail
  refine HS.out.mono ?_
  rintro e2 w2 ⟨A2, c2, rfl, own2, hb2⟩
  have HC := Lib.hid (compact_own (w.heap.size + 1) A2 _ c2 (sortI (natI ls)) w2 (own2.more (by simp)) (by have := HL.out; omega))
  rw [HKE.out, natI_length] at HC
  have hb3 := hb0.trans (hb2.mono (by simp))
  generalize (sortI (natI ls)).length = m2 at *
  clear HS own2 hb2 hb0 HV
  go_wp2_with fail
  refine HC.out.mono ?_
  rintro e3 w3 ⟨rfl, own3, hb4⟩
  have hb5 := hb3.trans (hb4.mono (by omega))
  have hin3 := own3.ints
  have hb6 := (Below.refl w3.heap.size w3).alloc (Nat.le_refl _) (.cells #[.slice A2 ks.length c2] 22)
  have c6 : (w3.alloc (.cells #[.slice A2 ks.length c2] 22)).cell? ⟨w3.heap.size, 0, none⟩ = some (.slice A2 ks.length c2) := by rw [World.cell?_alloc_at _ _ _ _ rfl]; rfl
  have HF := sieve_any 77 #[.pointer (some ⟨w3.heap.size, 0, none⟩)] (fun x => !moreB ks x.toNat) A2 c2 (natI ks) (w3.alloc (.cells #[.slice A2 ks.length c2] 22)) ((hin3.alloc (Nat.le_refl _) _).more (by simp)) (by rw [natI_length]; omega)
    (fun _ _ => rfl) (fun v hv x hx => by
      obtain ⟨p, hp, rfl⟩ := List.mem_map.1 hx
      exact leastOne_any p w3.heap.size A2 c2 ks v ((hv.cell (p := ⟨w3.heap.size, 0, none⟩) (by simp)).trans c6) (by have := hv.size; simp at this; omega) ((hin3.below (hb6.trans (hv.mono (by simp))) (Nat.le_refl _)).more (by have := hv.size; simp at this; omega)) (by omega) hk8 (hk8 p hp))
  rw [kept_filter, HK.out, natI_length] at HF
  have HF := Lib.hid HF
  clear HC own3 hb4 hb3 hin3 c6
  generalize ks.length = m3 at *
  go_wp2_with fail
  refine HF.out.mono ?_
  rintro e4 w4 ⟨A4, c4, rfl, own4, hb7⟩
  have hb8 := hb5.trans ((hb6.trans (hb7.mono (by simp))).mono hb5.size)
  go_wp2_with fail
  go_returns
  exact ⟨A4, c4, rfl, own4.more (by have := hb5.size; simp; omega), hb8⟩
end Go.Proofs.Ytlcgbmeneajfoaa
