/- Bits in common, and whether some of a list is had: the program's. -/
import Derived.Test.YtmdmmebekicpkaaVal8
import Derived.Test.YtmdmmebekicpkaaSieve
import Derived.Test.YtmdmmebekicpkaaBits7
import Derived.Test.YtmdmmebekicpkaaSpec8
import Derived.Test.YtmdmmebekicpkaaSorted
import Derived.Test.YtmdmmebekicpkaaFamL
import Derived.Deep.AppendLies
import Derived.Deep.RegionHeld3
import Derived.Test.YtmdmmebekicpkaaClass
namespace Go.Proofs.Ytmdmmebekicpkaa
open Go.RowKit
set_option maxRecDepth 100000

theorem hasAll_any (s p : Nat) (hs : s ≤ 8192) (hp : p ≤ 8192) (w : World) :
    Calls Try.prog 110 #[.int .i64 s, .int .i64 p] w fun e w' => e = .returned (.bool (decide (s &&& p = p))) ∧ w = w' := by
  have ha := and_small hs hp
  by_cases he : s &&& p = p
  · rw [he] at ha
    rw [decide_eq_true he]
    go_enter Try.func110, Try.ntmps110
    go_wp2_with fail
    go_returns
    exact ⟨rfl, rfl⟩
  · rw [decide_eq_false he]
    generalize s &&& p = z at *
    have hz1 : ((z : Int) = (p : Int)) = False := eq_false (by omega)
    have hz3 : ((z : Int) == (p : Int)) = false := by simp; omega
    go_enter Try.func110, Try.ntmps110
    go_wp2_with fail
    go_returns
    exact ⟨rfl, rfl⟩
theorem apart_any (s p : Nat) (hs : s ≤ 8192) (hp : p ≤ 8192) (w : World) :
    Calls Try.prog 79 #[.int .i64 s, .int .i64 p] w fun e w' => e = .returned (.bool (decide (s &&& p = 0))) ∧ w = w' := by
  have ha := and_small hs hp
  by_cases he : s &&& p = 0
  · rw [he] at ha
    rw [decide_eq_true he]
    go_enter Try.func79, Try.ntmps79
    go_wp2_with fail
    go_returns
    exact ⟨rfl, rfl⟩
  · rw [decide_eq_false he]
    generalize s &&& p = z at *
    have hz1 : ((z : Int) = (0 : Int)) = False := eq_false (by omega)
    have hz3 : ((z : Int) == (0 : Int)) = false := by simp; omega
    go_enter Try.func79, Try.ntmps79
    go_wp2_with fail
    go_returns
    exact ⟨rfl, rfl⟩
theorem always_any (a b : Value) (w : World) :
    Calls Try.prog 70 #[a, b] w fun e w' => e = .returned (.bool true) ∧ w = w' := by
  go_enter Try.func70, Try.ntmps70
  go_wp2_with fail
  go_returns
  exact ⟨rfl, rfl⟩

theorem any_take_more {q : Int → Bool} {xs : List Int} {k : Nat} {x : Int} (h : xs[k]? = some x) : (xs.take (k + 1)).any q = ((xs.take k).any q || q x) := by
  obtain ⟨hk, rfl⟩ := List.getElem?_eq_some_iff.1 h
  rw [List.take_succ_eq_append_getElem hk, List.any_append]; simp
theorem any_one {q : Int → Bool} {xs : List Int} {k : Nat} {x : Int} (h : xs[k]? = some x) (hq : q x = true) : xs.any q = true :=
  List.any_eq_true.2 ⟨x, List.mem_of_getElem? h, hq⟩

/-- A place just if one works; -1 if none does. -/
def FoundI (b : Bool) (w : World) (e : Ending) (w' : World) : Prop := ∃ i : Int, e = .returned (.int .i64 i) ∧ ((b = true ∧ 0 ≤ i) ∨ (b = false ∧ i = -1)) ∧ Below w.heap.size w w'

set_option maxHeartbeats 1000000 in
/-- The library's search by a function's value: from 0 on just if one works. -/
theorem indexFunc_any (F : FuncId) (caps : Array Value) (q : Int → Bool) (A : Option Addr) (cap : Nat) (xs : List Int) (w : World) (hxs : IntsIn w w.heap.size A xs) (hl : xs.length ≤ maxLen)
    (hF : ∀ (args : Array Value) (u : World), (callFunc F args).run Try.prog u = .ok (.enter F args) u)
    (hq : ∀ u, Below w.heap.size w u → ∀ x ∈ xs, Calls Try.prog F (#[.int .i64 x] ++ caps) u fun e w' => e = .returned (.bool (q x)) ∧ Below u.heap.size u w') :
    Calls Try.prog 131 #[.slice A xs.length cap, .func (.func F) #[] caps] w (FoundI (xs.any q) w) := by
  have hl2 : xs.length ≤ 9223372036854775807 := by simp [maxLen] at hl; omega
  have HQ := Lib.hid hq
  obtain ⟨m, hm⟩ : ∃ m, xs.length = m := ⟨_, rfl⟩
  rw [hm] at hl2 ⊢
  have HM := Lib.hid hm
  clear hq hm hl
  go_enter Try.func131, Try.ntmps131
  go_wp2_with fail
  go_loopw [8] (fun i wr => ∃ k : Nat, k ≤ m ∧ i = .int .i64 (k : Nat) ∧ (xs.take k).any q = false ∧ Below w.heap.size w wr) (fun i _ => m - (intOf i).toNat)
  case atStart => exact ⟨0, by omega, rfl, rfl, Below.refl _ _⟩
  case round =>
    obtain ⟨k, hk, rfl, hno, hb⟩ := hrel
    by_cases hlt : k < m
    · have k1 : k < xs.length := by have := HM.out; omega
      obtain ⟨x, hx⟩ : ∃ x, xs[k]? = some x := ⟨_, List.getElem?_eq_getElem k1⟩
      obtain ⟨b, off, rfl, hbb, g1⟩ := (hxs.below hb (Nat.le_refl _)) k _ hx
      have hcall := HQ.out wr hb x (List.mem_of_getElem? hx)
      have hnext := any_take_more (q := q) hx
      rw [hno, Bool.false_or] at hnext
      have HX := Lib.hid hx
      clear hno hx
      cases hv : q x with
      | true =>
        have HA := Lib.hid (any_one HX.out hv)
        rw [hv] at hcall
        clear hnext
        go_wp2_with fail
        refine hcall.mono ?_
        clear hcall
        rintro e1 w1 ⟨rfl, hb1⟩
        have hb2 := hb.trans (hb1.mono hb.size)
        clear hb hb1 HQ g1 hxs
        go_wp2_with fail
        go_returns
        exact ⟨_, rfl, .inl ⟨HA.out, by omega⟩, hb2⟩
      | false =>
        rw [hv] at hcall hnext
        have HN := Lib.hid hnext
        clear hnext
        go_wp2_with fail
        refine hcall.mono ?_
        clear hcall
        rintro e1 w1 ⟨rfl, hb1⟩
        have hb2 := hb.trans (hb1.mono hb.size)
        clear hb hb1 HQ g1 hxs
        go_wp2_with fail
        go_roundw
        case rel => exact ⟨k + 1, by omega, by go_num, HN.out, hb2⟩
        case measure => simp [intOf]; omega
    · obtain rfl : k = m := by omega
      have HN : Hid (xs.any q = false) := by
        rw [Hid, ← hno, ← HM.out, List.take_length]
      clear hno
      go_wp2_with fail
      go_returns
      exact ⟨_, rfl, .inr ⟨HN.out, rfl⟩, hb⟩

theorem containsFunc_any (F : FuncId) (caps : Array Value) (q : Int → Bool) (A : Option Addr) (cap : Nat) (xs : List Int) (w : World) (hxs : IntsIn w w.heap.size A xs) (hl : xs.length ≤ maxLen)
    (hF : ∀ (args : Array Value) (u : World), (callFunc F args).run Try.prog u = .ok (.enter F args) u)
    (hq : ∀ u, Below w.heap.size w u → ∀ x ∈ xs, Calls Try.prog F (#[.int .i64 x] ++ caps) u fun e w' => e = .returned (.bool (q x)) ∧ Below u.heap.size u w') :
    Calls Try.prog 99 #[.slice A xs.length cap, .func (.func F) #[] caps] w fun e w' => e = .returned (.bool (xs.any q)) ∧ Below w.heap.size w w' := by
  have HC := Lib.hid (indexFunc_any F caps q A cap xs w hxs hl hF hq)
  clear hq hF
  generalize xs.length = m at *
  go_enter Try.func99, Try.ntmps99
  go_wp2_with fail
  refine HC.out.mono ?_
  rintro e1 w1 ⟨i, rfl, hi, hb⟩
  rcases hi with ⟨hv, hi⟩ | ⟨hv, rfl⟩
  · have HV := Lib.hid hv
    have hi2 : (0 ≤ i) = True := eq_true hi
    clear hv HC
    go_wp2_with fail
    go_returns
    exact ⟨retB HV.out.symm, hb⟩
  · have HV := Lib.hid hv
    clear hv HC
    go_wp2_with fail
    go_returns
    exact ⟨retB HV.out.symm, hb⟩
end Go.Proofs.Ytmdmmebekicpkaa

/- The least of a list of states: the program's. -/
namespace Go.Proofs.Ytmdmmebekicpkaa
open Go.RowKit
set_option maxRecDepth 100000

theorem some1_any (s p g : Nat) (u : World) (hc : u.cell? ⟨g, 0, none⟩ = some (.int .i64 s)) (hs : s ≤ 8192) (hp : p ≤ 8192) :
    Calls Try.prog 109 #[.int .i64 p, .pointer (some ⟨g, 0, none⟩)] u fun e w' => e = .returned (.bool (decide (s &&& p = p))) ∧ Below u.heap.size u w' := by
  have H := Lib.hid (hasAll_any s p hs hp u)
  generalize decide (s &&& p = p) = v at *
  go_enter Try.func109, Try.ntmps109
  go_wp2_with fail
  refine H.out.mono ?_
  rintro e1 w1 ⟨rfl, rfl⟩
  go_wp2_with fail
  go_returns
  exact ⟨rfl, Below.refl _ _⟩

theorem some_fam (s : Nat) (ls : List Nat) : (natI ls).any (fun x => decide (s &&& x.toNat = x.toNat)) = famB ls s := by
  unfold natI famB
  rw [List.any_map]
  congr 1
  funext p
  show decide (s &&& p = p) = decide (p &&& s = p)
  rw [Nat.and_comm]

theorem hasSome_any (s : Nat) (A : Option Addr) (cap : Nat) (ls : List Nat) (w : World) (hin : IntsIn w w.heap.size A (natI ls)) (hl : ls.length ≤ 1048576) (hls : ∀ x ∈ ls, x ≤ 8192) (hs : s ≤ 8192) :
    Calls Try.prog 64 #[.int .i64 s, .slice A ls.length cap] w fun e w' => e = .returned (.bool (famB ls s)) ∧ Below w.heap.size w w' := by
  have hmf : ∀ (fn : Fn) (first cap : Array Value) (w : World), (Instr.makeFunc fn first cap).run Try.prog w = .ok (.func fn first cap) w := fun _ _ _ _ => rfl
  have hb := (Below.refl w.heap.size w).alloc (Nat.le_refl _) (.cells #[.int .i64 s] 3)
  have HC := containsFunc_any 109 #[.pointer (some ⟨w.heap.size, 0, none⟩)] (fun x => decide (s &&& x.toNat = x.toNat)) A cap (natI ls) (w.alloc (.cells #[.int .i64 s] 3)) ((hin.alloc (Nat.le_refl _) _).more (by simp)) (by rw [natI_length]; simp [maxLen]; omega)
    (fun _ _ => rfl) (fun u hu x hx => by
      obtain ⟨p, hp, rfl⟩ := List.mem_map.1 hx
      exact some1_any s p w.heap.size u ((hu.cell (p := ⟨w.heap.size, 0, none⟩) (by simp)).trans (by rw [World.cell?_alloc_at _ _ _ _ rfl]; rfl)) hs (hls p hp))
  rw [natI_length, some_fam] at HC
  have HC := Lib.hid HC
  generalize famB ls s = v at *
  generalize ls.length = m at *
  go_enter Try.func64, Try.ntmps64
  go_wp2_with fail
  refine HC.out.mono ?_
  rintro e1 w1 ⟨rfl, hb1⟩
  go_wp2_with fail
  go_returns
  exact ⟨rfl, hb.trans (hb1.mono (by simp))⟩

theorem other_any (s p g : Nat) (u : World) (hc : u.cell? ⟨g, 0, none⟩ = some (.int .i64 s)) :
    Calls Try.prog 115 #[.int .i64 p, .pointer (some ⟨g, 0, none⟩)] u fun e w' => e = .returned (.bool (!decide (p = s))) ∧ Below u.heap.size u w' := by
  by_cases h : p = s
  · subst h
    rw [decide_eq_true rfl]
    go_enter Try.func115, Try.ntmps115
    go_wp2_with fail
    go_returns
    exact ⟨retB (by simp), Below.refl _ _⟩
  · rw [decide_eq_false h]
    have h3 : ((p : Int) == (s : Int)) = false := by simp; omega
    go_enter Try.func115, Try.ntmps115
    go_wp2_with fail
    go_returns
    exact ⟨retB (by simp; omega), Below.refl _ _⟩

theorem more_fam (ks : List Nat) (s : Nat) : famB (ks.filter fun o => !decide (o = s)) s = moreB ks s := by
  unfold moreB famB
  congr 1
  funext p
  rw [Nat.and_comm]

set_option maxHeartbeats 1000000 in
theorem leastOne_any (s g : Nat) (A : Option Addr) (c : Nat) (ks : List Nat) (u : World) (hc : u.cell? ⟨g, 0, none⟩ = some (.slice A ks.length c)) (hg : g < u.heap.size) (hin : IntsIn u u.heap.size A (natI ks)) (hl : ks.length ≤ 4096) (hks : ∀ x ∈ ks, x ≤ 8192) (hs : s ≤ 8192) :
    Calls Try.prog 114 #[.int .i64 s, .pointer (some ⟨g, 0, none⟩)] u fun e w' => e = .returned (.bool (!moreB ks s)) ∧ Below u.heap.size u w' := by
  have hmf : ∀ (fn : Fn) (first cap : Array Value) (w : World), (Instr.makeFunc fn first cap).run Try.prog w = .ok (.func fn first cap) w := fun _ _ _ _ => rfl
  have hb := (Below.refl u.heap.size u).alloc (Nat.le_refl _) (.cells #[.int .i64 s] 3)
  have c0 : (u.alloc (.cells #[.int .i64 s] 3)).cell? ⟨u.heap.size, 0, none⟩ = some (.int .i64 s) := by rw [World.cell?_alloc_at _ _ _ _ rfl]; rfl
  have c1 := (hb.cell (p := ⟨g, 0, none⟩) hg).trans hc
  have HS := sieve_any 115 #[.pointer (some ⟨u.heap.size, 0, none⟩)] (fun x => !decide (x.toNat = s)) A c (natI ks) (u.alloc (.cells #[.int .i64 s] 3)) ((hin.alloc (Nat.le_refl _) _).more (by simp)) (by rw [natI_length]; omega)
    (fun _ _ => rfl) (fun v hv x hx => by
      obtain ⟨p, hp, rfl⟩ := List.mem_map.1 hx
      exact other_any s p u.heap.size v ((hv.cell (p := ⟨u.heap.size, 0, none⟩) (by simp)).trans c0))
  rw [natI_length, natI_filter] at HS
  have ef : (ks.filter fun x : Nat => !decide (((x : Nat) : Int).toNat = s)) = ks.filter fun o => !decide (o = s) := rfl
  rw [ef] at HS
  have HM := Lib.hid (more_fam ks s)
  have hlf : (ks.filter fun o => !decide (o = s)).length ≤ 4096 := Nat.le_trans (List.length_filter_le _ _) hl
  have hkf : ∀ x ∈ (ks.filter fun o => !decide (o = s)), x ≤ 8192 := fun x hx => hks x (List.mem_filter.1 hx).1
  generalize (ks.filter fun o => !decide (o = s)) = fs at *
  have HS := Lib.hid HS
  have HC0 := Lib.hid c0
  clear c0 ef
  generalize moreB ks s = v at *
  generalize ks.length = m at *
  go_enter Try.func114, Try.ntmps114
  go_wp2_with fail
  refine HS.out.mono ?_
  rintro e1 w1 ⟨A1, k1, rfl, own1, hb1⟩
  have d0 := (hb1.cell (p := ⟨u.heap.size, 0, none⟩) (by simp)).trans HC0.out
  have hi1 := own1.ints
  have hb2 := hb.trans (hb1.mono (by simp))
  rw [natI_length]
  have HH := Lib.hid (hasSome_any s A1 k1 fs w1 hi1 (by omega) hkf hs)
  rw [HM.out] at HH
  clear own1 hi1 HS hb1 hb c1
  go_wp2_with fail
  refine HH.out.mono ?_
  rintro e2 w2 ⟨rfl, hb3⟩
  go_wp2_with fail
  go_returns
  exact ⟨rfl, hb2.trans (hb3.mono hb2.size)⟩

theorem kept_filter (ks : List Nat) : (natI ks).filter (fun x => !moreB ks x.toNat) = natI (keptN ks) := by
  rw [natI_filter]; rfl

set_option maxHeartbeats 2000000 in
/-- The program's least states of a list. -/
theorem leastOf_any (T : Nat) (A : Option Addr) (cap : Nat) (ls : List Nat) (w : World) (hT : T ≤ 9) (hin : IntsIn w w.heap.size A (natI ls)) (hl : ls.length ≤ 1048576) (hls : ∀ x ∈ ls, x < 2 ^ T) :
    Calls Try.prog 66 #[.slice A ls.length cap] w (GotInts w (natI (famOf T ls))) := by
  have hmf : ∀ (fn : Fn) (first cap : Array Value) (w : World), (Instr.makeFunc fn first cap).run Try.prog w = .ok (.func fn first cap) w := fun _ _ _ _ => rfl
  have h512 : ∀ x ∈ ls, x ≤ 8192 := fun x hx => by
    have h1 := hls x hx
    have h2 : 2 ^ T ≤ 2 ^ 9 := Nat.pow_le_pow_right (by omega) hT
    omega
  obtain ⟨ks, hk, hkl, hks, hkm⟩ := once_nat ls
  have HK := Lib.hid (kept_least hT hls hks hkm)
  have hk5 : ks.length ≤ 512 := by
    have h1 := asc_len ks 0 (2 ^ T) hks (fun x hx => ⟨Nat.zero_le _, hls x ((hkm x).1 hx)⟩) (Nat.zero_le _)
    have h2 : 2 ^ T ≤ 2 ^ 9 := Nat.pow_le_pow_right (by omega) hT
    omega
  have hk8 : ∀ x ∈ ks, x ≤ 8192 := fun x hx => h512 x ((hkm x).1 hx)
  have HV : Hid (∀ u, Calls Try.prog 113 #[.slice A ls.length cap] u fun e w' => e = .returned (.func (.func 134) #[] #[.pointer (some ⟨u.heap.size, 0, none⟩)]) ∧ w' = u.alloc (.cells #[.slice A ls.length cap] 23)) := fun u =>
    callsIn_wide.1 (vals_any Fence.wide 1 trivial rfl A ls.length cap u)
  have hb0 := (Below.refl w.heap.size w).alloc (Nat.le_refl _) (.cells #[.slice A ls.length cap] 23)
  have HS := sorted_any w.heap.size cap A (natI ls) (by rw [natI_length]; omega) (w.alloc (.cells #[.slice A ls.length cap] 23)) (by simp) (by rw [World.cell?_alloc_at _ _ _ _ rfl, natI_length]; rfl) ((hin.alloc (Nat.le_refl _) _).more (by simp))
  have HS := Lib.hid HS
  have HL : Hid ((sortI (natI ls)).length ≤ 1048576) := by rw [Hid, sortI_len, natI_length]; exact hl
  have HKE := Lib.hid hk
  clear hk hin
  generalize ls.length = m at *
  go_enter Try.func66, Try.ntmps66
  go_wp2_with fail
  refine (HV.out _).mono ?_
  rintro e1 w1 ⟨rfl, rfl⟩
  go_wp2_with fail
  refine HS.out.mono ?_
  rintro e2 w2 ⟨A2, c2, rfl, own2, hb2⟩
  have HC := Lib.hid (compact_own (w.heap.size + 1) A2 _ c2 (sortI (natI ls)) w2 (own2.more (by simp)) (by have := HL.out; omega))
  rw [HKE.out, natI_length] at HC
  have hb3 := hb0.trans (hb2.mono (by simp))
  generalize (sortI (natI ls)).length = m2 at *
  clear HS own2 hb2 hb0 HV
  go_wp2_with fail
  refine HC.out.mono ?_
  rintro e3 w3 ⟨rfl, own3, hb4⟩
  have hb5 := hb3.trans (hb4.mono (by omega))
  have hin3 := own3.ints
  have hb6 := (Below.refl w3.heap.size w3).alloc (Nat.le_refl _) (.cells #[.slice A2 ks.length c2] 23)
  have c6 : (w3.alloc (.cells #[.slice A2 ks.length c2] 23)).cell? ⟨w3.heap.size, 0, none⟩ = some (.slice A2 ks.length c2) := by rw [World.cell?_alloc_at _ _ _ _ rfl]; rfl
  have HF := sieve_any 114 #[.pointer (some ⟨w3.heap.size, 0, none⟩)] (fun x => !moreB ks x.toNat) A2 c2 (natI ks) (w3.alloc (.cells #[.slice A2 ks.length c2] 23)) ((hin3.alloc (Nat.le_refl _) _).more (by simp)) (by rw [natI_length]; omega)
    (fun _ _ => rfl) (fun v hv x hx => by
      obtain ⟨p, hp, rfl⟩ := List.mem_map.1 hx
      exact leastOne_any p w3.heap.size A2 c2 ks v ((hv.cell (p := ⟨w3.heap.size, 0, none⟩) (by simp)).trans c6) (by have := hv.size; simp at this; omega) ((hin3.below (hb6.trans (hv.mono (by simp))) (Nat.le_refl _)).more (by have := hv.size; simp at this; omega)) (by omega) hk8 (hk8 p hp))
  rw [kept_filter, HK.out, natI_length] at HF
  have HF := Lib.hid HF
  clear HC own3 hb4 hb3 hin3 c6
  generalize ks.length = m3 at *
  go_wp2_with fail
  refine HF.out.mono ?_
  rintro e4 w4 ⟨A4, c4, rfl, own4, hb7⟩
  have hb8 := hb5.trans ((hb6.trans (hb7.mono (by simp))).mono hb5.size)
  go_wp2_with fail
  go_returns
  exact ⟨A4, c4, rfl, own4.more (by have := hb5.size; simp; omega), hb8⟩
end Go.Proofs.Ytmdmmebekicpkaa

/- Numbers of things and lists of states: the program's tests. -/
namespace Go.Proofs.Ytmdmmebekicpkaa
open Go.RowKit
set_option maxRecDepth 100000

def sixB (t : Int) : Bool := decide (0 ≤ t) && decide (t ≤ 6)
theorem thingsOk_any (t : Int) (w : World) :
    Calls Try.prog 106 #[.int .i64 t] w fun e w' => e = .returned (.bool (sixB t)) ∧ w = w' := by
  unfold sixB
  by_cases h0 : 0 ≤ t
  · have e0 : (0 ≤ t) = True := eq_true h0
    by_cases h1 : t ≤ 6
    · have e1 : (t ≤ 6) = True := eq_true h1
      rw [decide_eq_true h0, decide_eq_true h1]
      go_enter Try.func106, Try.ntmps106
      go_wp2_with fail
      go_returns
      exact ⟨rfl, rfl⟩
    · have e1 : (t ≤ 6) = False := eq_false h1
      rw [decide_eq_true h0, decide_eq_false h1]
      go_enter Try.func106, Try.ntmps106
      go_wp2_with fail
      go_returns
      exact ⟨rfl, rfl⟩
  · have e0 : (0 ≤ t) = False := eq_false h0
    rw [decide_eq_false h0]
    go_enter Try.func106, Try.ntmps106
    go_wp2_with fail
    go_returns
    exact ⟨rfl, rfl⟩

def stateB (t s : Int) : Bool := sixB t && (decide (0 ≤ s) && decide (s < (2 ^ t.toNat : Nat)))
theorem stateThings_any (t s : Int) (w : World) :
    Calls Try.prog 63 #[.int .i64 t, .int .i64 s] w fun e w' => e = .returned (.bool (stateB t s)) ∧ w = w' := by
  have HT := Lib.hid (thingsOk_any t)
  unfold stateB
  cases h : sixB t with
  | false =>
    rw [h] at HT
    go_enter Try.func63, Try.ntmps63
    go_wp2_with fail
    refine (HT.out _).mono ?_
    rintro e1 w1 ⟨rfl, rfl⟩
    go_wp2_with fail
    go_returns
    exact ⟨rfl, rfl⟩
  | true =>
    rw [h] at HT
    unfold sixB at h
    rw [Bool.and_eq_true, decide_eq_true_eq, decide_eq_true_eq] at h
    obtain ⟨T, rfl⟩ : ∃ T : Nat, t = T := ⟨t.toNat, by omega⟩
    obtain ⟨P, hP, p1, p2, p3, p4⟩ := pow_named12 (l := T) (by omega)
    rw [Int.toNat_natCast, hP]
    have hmin : min T 64 = T := by omega
    by_cases h0 : 0 ≤ s
    · have e0 : (0 ≤ s) = True := eq_true h0
      rw [decide_eq_true h0]
      by_cases h1 : s < (P : Int)
      · have e1 : (s < (P : Int)) = True := eq_true h1
        rw [decide_eq_true h1]
        clear hP h h1
        go_enter Try.func63, Try.ntmps63
        go_wp2_with fail
        refine (HT.out _).mono ?_
        rintro e1 w1 ⟨rfl, rfl⟩
        go_wp2_with fail
        go_returns
        exact ⟨rfl, rfl⟩
      · have e1 : (s < (P : Int)) = False := eq_false h1
        rw [decide_eq_false h1]
        clear hP h h1
        go_enter Try.func63, Try.ntmps63
        go_wp2_with fail
        refine (HT.out _).mono ?_
        rintro e1 w1 ⟨rfl, rfl⟩
        go_wp2_with fail
        go_returns
        exact ⟨rfl, rfl⟩
    · have e0 : (0 ≤ s) = False := eq_false h0
      rw [decide_eq_false h0]
      clear hP h
      go_enter Try.func63, Try.ntmps63
      go_wp2_with fail
      refine (HT.out _).mono ?_
      rintro e1 w1 ⟨rfl, rfl⟩
      go_wp2_with fail
      go_returns
      exact ⟨rfl, rfl⟩

theorem listOne_any (t x : Int) (g : Nat) (u : World) (hc : u.cell? ⟨g, 0, none⟩ = some (.int .i64 t)) :
    Calls Try.prog 107 #[.int .i64 x, .pointer (some ⟨g, 0, none⟩)] u fun e w' => e = .returned (.bool (!stateB t x)) ∧ Below u.heap.size u w' := by
  have H := Lib.hid (stateThings_any t x u)
  generalize stateB t x = v at *
  go_enter Try.func107, Try.ntmps107
  go_wp2_with fail
  refine H.out.mono ?_
  rintro e1 w1 ⟨rfl, rfl⟩
  go_wp2_with fail
  go_returns
  exact ⟨rfl, Below.refl _ _⟩

theorem list_state (t : Int) (xs : List Int) (h : sixB t = true) : listOkB t xs = !xs.any fun x => !stateB t x := by
  unfold listOkB
  rw [show (decide (0 ≤ t) && decide (t ≤ 6)) = true from h, Bool.true_and, List.not_any_eq_all_not]
  congr 1
  funext x
  unfold stateB
  rw [h, Bool.true_and, Bool.not_not]
theorem list_state_no (t : Int) (xs : List Int) (h : sixB t = false) : listOkB t xs = false := by
  unfold listOkB
  rw [show (decide (0 ≤ t) && decide (t ≤ 6)) = false from h, Bool.false_and]

set_option maxHeartbeats 1000000 in
theorem listThings_any (t : Int) (A : Option Addr) (c : Nat) (xs : List Int) (w : World) (hin : IntsIn w w.heap.size A xs) (hl : xs.length ≤ maxLen) :
    Calls Try.prog 58 #[.int .i64 t, .slice A xs.length c] w fun e w' => e = .returned (.bool (listOkB t xs)) ∧ Below w.heap.size w w' := by
  have hmf : ∀ (fn : Fn) (first cap : Array Value) (w : World), (Instr.makeFunc fn first cap).run Try.prog w = .ok (.func fn first cap) w := fun _ _ _ _ => rfl
  have hb := (Below.refl w.heap.size w).alloc (Nat.le_refl _) (.cells #[.int .i64 t] 3)
  have HT := Lib.hid (thingsOk_any t)
  cases h : sixB t with
  | false =>
    rw [h] at HT
    have HV := Lib.hid (list_state_no t xs h)
    generalize listOkB t xs = v at *
    clear hin hl h
    go_enter Try.func58, Try.ntmps58
    go_wp2_with fail
    refine (HT.out _).mono ?_
    rintro e1 w1 ⟨rfl, rfl⟩
    go_wp2_with fail
    go_returns
    exact ⟨retB HV.out.symm, hb⟩
  | true =>
    rw [h] at HT
    have HV := Lib.hid (list_state t xs h)
    have HC := containsFunc_any 107 #[.pointer (some ⟨w.heap.size, 0, none⟩)] (fun x => !stateB t x) A c xs (w.alloc (.cells #[.int .i64 t] 3)) ((hin.alloc (Nat.le_refl _) _).more (by simp)) hl
      (fun _ _ => rfl) (fun u hu x _ => listOne_any t x w.heap.size u ((hu.cell (p := ⟨w.heap.size, 0, none⟩) (by simp)).trans (by rw [World.cell?_alloc_at _ _ _ _ rfl]; rfl)))
    have HC := Lib.hid HC
    generalize (xs.any fun x => !stateB t x) = b at *
    generalize listOkB t xs = v at *
    generalize xs.length = m at *
    clear hin h hl
    go_enter Try.func58, Try.ntmps58
    go_wp2_with fail
    refine (HT.out _).mono ?_
    rintro e1 w1 ⟨rfl, rfl⟩
    go_wp2_with fail
    refine HC.out.mono ?_
    rintro e2 w2 ⟨rfl, hb2⟩
    go_wp2_with fail
    go_returns
    exact ⟨retB HV.out.symm, hb.trans (hb2.mono (by simp))⟩

/-- How far two lists are alike. -/
theorem equal_any (A B : Option Addr) (c d : Nat) (xs ys : List Int) (w : World) (hx : IntsIn w w.heap.size A xs) (hy : IntsIn w w.heap.size B ys) (hl : xs.length ≤ maxLen) :
    Calls Try.prog 65 #[.slice A xs.length c, .slice B ys.length d] w fun e w' => e = .returned (.bool (decide (xs = ys))) ∧ Below w.heap.size w w' := by
  have hl2 : xs.length ≤ 9223372036854775807 := by simp [maxLen] at hl; omega
  by_cases hn : xs.length = ys.length
  · obtain ⟨m, hm⟩ : ∃ m, xs.length = m := ⟨_, rfl⟩
    rw [← hn, hm]
    rw [hm] at hl2
    have HX := Lib.hid hm
    have HY : Hid (ys.length = m) := hn.symm.trans hm
    clear hl hm hn
    go_enter Try.func65, Try.ntmps65
    go_wp2_with fail
    go_loopw [13] (fun i wr => ∃ k : Nat, k ≤ m ∧ i = .int .i64 (k : Nat) ∧ xs.take k = ys.take k ∧ Below w.heap.size w wr) (fun i _ => m - (intOf i).toNat)
    case atStart => exact ⟨0, by omega, rfl, rfl, Below.refl _ _⟩
    case round =>
      obtain ⟨k, hk, rfl, hsame, hb⟩ := hrel
      by_cases hlt : k < m
      · have k1 : k < xs.length := by have := HX.out; omega
        have k2 : k < ys.length := by have := HY.out; omega
        obtain ⟨x, hx1⟩ : ∃ x, xs[k]? = some x := ⟨_, List.getElem?_eq_getElem k1⟩
        obtain ⟨y, hy1⟩ : ∃ y, ys[k]? = some y := ⟨_, List.getElem?_eq_getElem k2⟩
        obtain ⟨b, off, rfl, hbb, g1⟩ := (hx.below hb (Nat.le_refl _)) k _ hx1
        obtain ⟨b2, off2, rfl, hbb2, g2⟩ := (hy.below hb (Nat.le_refl _)) k _ hy1
        have hik : (k : Int) < (m : Int) := by omega
        by_cases he : x = y
        · subst he
          have HN : Hid (xs.take (k + 1) = ys.take (k + 1)) := by rw [Hid, take_more hx1, take_more hy1, hsame]
          clear hx hy hx1 hy1 hsame k1 k2
          go_wp2_with fail
          go_quiet (fail)
          go_wp2_with fail
          go_roundw
          case rel => exact ⟨k + 1, by omega, by go_num, HN.out, belowN hb _⟩
          case measure => simp [intOf]; omega
        · have HN : Hid (decide (xs = ys) = false) := decide_eq_false fun e => by rw [e] at hx1; rw [hx1] at hy1; exact he (by injection hy1)
          have e1 : (x = y) = False := eq_false he
          have e2 : (x == y) = false := by simp [he]
          clear hx hy hx1 hy1 hsame k1 k2
          go_wp2_with fail
          go_quiet (fail)
          go_wp2_with fail
          go_returns
          exact ⟨retB HN.out.symm, belowN hb _⟩
      · obtain rfl : k = m := by omega
        have HN : Hid (decide (xs = ys) = true) := by
          rw [List.take_of_length_le (by rw [HX.out]; exact Nat.le_refl _), List.take_of_length_le (by rw [HY.out]; exact Nat.le_refl _)] at hsame
          exact decide_eq_true hsame
        clear hsame
        go_wp2_with fail
        go_returns
        exact ⟨retB HN.out.symm, hb⟩
  · have hne : ((xs.length : Int) = (ys.length : Int)) = False := eq_false (by omega)
    have hne2 : ((xs.length : Int) == (ys.length : Int)) = false := by simp; omega
    have HN : Hid (decide (xs = ys) = false) := decide_eq_false fun e => hn (by rw [e])
    clear hx hy hn
    generalize xs.length = m at *
    generalize ys.length = m2 at *
    go_enter Try.func65, Try.ntmps65
    go_wp2_with fail
    go_returns
    exact ⟨retB HN.out.symm, Below.refl _ _⟩
end Go.Proofs.Ytmdmmebekicpkaa

/- Each of a list with each one of another list that fits it; a family of a list: the program's. -/
namespace Go.Proofs.Ytmdmmebekicpkaa
open Go.RowKit
set_option maxRecDepth 100000

theorem cell_same {u u' : World} {g k : Nat} (h : u'.heap[g]? = u.heap[g]?) : u'.cell? ⟨g, k, none⟩ = u.cell? ⟨g, k, none⟩ := by simp only [World.cell?, h]
/-- A list's numbers lie in a block from lo on, before hi. -/
def Between (u : World) (lo hi : Nat) (A : Option Addr) (xs : List Int) : Prop := ∀ k x, xs[k]? = some x → ∃ g, A = some ⟨g, 0, none⟩ ∧ lo ≤ g ∧ g < hi ∧ u.cell? ⟨g, k, none⟩ = some (.int .i64 x)
theorem Between.of {u : World} {lo n c : Nat} {A : Option Addr} {xs : List Int} (h : OwnI u lo (.slice A n c) xs) : Between u lo u.heap.size A xs := fun k x hk => by
  obtain ⟨b, off, rfl, hb, hc⟩ := h.ints k x hk
  have hge := h.ge b rfl
  have hoff : off = 0 := by
    rcases h.form with ⟨hv, _⟩ | ⟨g, cap, hv, _, _⟩
    · cases hv
    · injection hv with h1 _ _
      injection h1 with h1
      injection h1
  subst hoff
  rw [Nat.zero_add] at hc
  exact ⟨b, rfl, hge, hb, hc⟩
theorem Between.grown {u u' : World} {lo hi : Nat} {A : Option Addr} {xs : List Int} {r : Option Nat} (h : Between u lo hi A xs) (hg : u.grownBy u' r) (hhi : hi ≤ u.heap.size) (hr : ∀ b, r = some b → b < lo ∨ hi ≤ b) : Between u' lo hi A xs := fun k x hk => by
  obtain ⟨g, rfl, h1, h2, h3⟩ := h k x hk
  refine ⟨g, rfl, h1, h2, (cell_same (hg.block g (by omega) fun e => ?_)).trans h3⟩
  have := hr g e.symm
  omega
theorem Between.alloc {u : World} {lo hi : Nat} {A : Option Addr} {xs : List Int} (h : Between u lo hi A xs) (hhi : hi ≤ u.heap.size) (o : Obj) : Between (u.alloc o) lo hi A xs :=
  h.grown (World.grownBy_alloc u o none) hhi (fun b e => by cases e)

theorem eachOne_any (F : FuncId) (fits : Nat → Nat → Bool) (x y g5 g9 : Nat) (u : World) (c5 : u.cell? ⟨g5, 0, none⟩ = some (.func (.func F) #[] #[])) (c9 : u.cell? ⟨g9, 0, none⟩ = some (.int .i64 x))
    (hF : ∀ (args : Array Value) (u : World), (callFunc F args).run Try.prog u = .ok (.enter F args) u)
    (hq : Calls Try.prog F #[.int .i64 x, .int .i64 y] u fun e w' => e = .returned (.bool (fits x y)) ∧ u = w') :
    Calls Try.prog 118 #[.int .i64 y, .pointer (some ⟨g5, 0, none⟩), .pointer (some ⟨g9, 0, none⟩)] u fun e w' => e = .returned (.bool (fits x y)) ∧ Below u.heap.size u w' := by
  have H := Lib.hid hq
  clear hq
  generalize fits x y = v at *
  go_enter Try.func118, Try.ntmps118
  go_wp2_with fail
  refine H.out.mono ?_
  rintro e1 w1 ⟨rfl, rfl⟩
  go_wp2_with fail
  go_returns
  exact ⟨rfl, Below.refl _ _⟩

theorem alloc_heap8 {u : World} {o : Obj} {g : Nat} (h : g < u.heap.size) : (u.alloc o).heap[g]? = u.heap[g]? := ((Below.refl u.heap.size u).alloc (Nat.le_refl _) o).block g h
theorem withEach_take (fits : Nat → Nat → Bool) (ns ms : List Nat) {k : Nat} (hk : k < ns.length) : withEach fits (ns.take (k + 1)) ms = withEach fits (ns.take k) ms ++ withOne fits ms (ns.getD k 0) := by
  have : ns.take (k + 1) = ns.take k ++ [ns.getD k 0] := by rw [List.take_add_one]; simp [List.getD, hk]
  rw [this]; unfold withEach; rw [List.flatMap_append]; simp
theorem map_take_more (x : Nat) (fs : List Nat) {j : Nat} (hj : j < fs.length) : (fs.take (j + 1)).map (fun y => x ||| y) = (fs.take j).map (fun y => x ||| y) ++ [x ||| fs.getD j 0] := by
  have : fs.take (j + 1) = fs.take j ++ [fs.getD j 0] := by rw [List.take_add_one]; simp [List.getD, hj]
  rw [this]; simp
theorem natI_app (xs ys : List Nat) : natI (xs ++ ys) = natI xs ++ natI ys := by simp [natI]
theorem nat_at {ns : List Nat} {k : Nat} (h : k < ns.length) : (natI ns)[k]? = some ((ns.getD k 0 : Nat) : Int) := by simp [natI, List.getD, h]
theorem nat_mem {ns : List Nat} {k : Nat} (h : k < ns.length) : ns.getD k 0 ∈ ns := by
  rw [List.getD_eq_getElem?_getD, List.getElem?_eq_getElem h]; exact List.getElem_mem h

set_option maxHeartbeats 1000000 in
theorem each_any (F : FuncId) (fits : Nat → Nat → Bool) (A B : Option Addr) (c d : Nat) (ns ms : List Nat) (w : World) (hA : IntsIn w w.heap.size A (natI ns)) (hB : IntsIn w w.heap.size B (natI ms)) (hn : ns.length ≤ 64) (hm : ms.length ≤ 64)
    (hns : ∀ x ∈ ns, x ≤ 8192) (hms : ∀ x ∈ ms, x ≤ 8192) (hF : ∀ (args : Array Value) (u : World), (callFunc F args).run Try.prog u = .ok (.enter F args) u)
    (hq : ∀ u x y, x ≤ 8192 → y ≤ 8192 → Calls Try.prog F #[.int .i64 (x : Nat), .int .i64 (y : Nat)] u fun e w' => e = .returned (.bool (fits x y)) ∧ u = w') :
    Calls Try.prog 69 #[.slice A ns.length c, .slice B ms.length d, .func (.func F) #[] #[]] w (GotInts w (natI (withEach fits ns ms))) := by
  have hmf : ∀ (fn : Fn) (first cap : Array Value) (w : World), (Instr.makeFunc fn first cap).run Try.prog w = .ok (.func fn first cap) w := fun _ _ _ _ => rfl
  obtain ⟨i0, hi0, hz0, hz1, hz2⟩ := info_parts int_info
  have B0 := (Below.refl w.heap.size w).alloc (Nat.le_refl _) (.cells #[.func (.func F) #[] #[]] 77)
  have C0 : (w.alloc (.cells #[.func (.func F) #[] #[]] 77)).cell? ⟨w.heap.size, 0, none⟩ = some (.func (.func F) #[] #[]) := by rw [World.cell?_alloc_at _ _ _ _ rfl]; rfl
  have HQ := Lib.hid hq
  have HF := Lib.hid hF
  have HNS := Lib.hid hns
  have HMS := Lib.hid hms
  have HA := Lib.hid hA
  have HB := Lib.hid hB
  obtain ⟨n, hnn⟩ : ∃ n, ns.length = n := ⟨_, rfl⟩
  obtain ⟨m, hmm⟩ : ∃ m, ms.length = m := ⟨_, rfl⟩
  rw [hnn, hmm]
  rw [hnn] at hn
  rw [hmm] at hm
  have HN := Lib.hid hnn
  have HM := Lib.hid hmm
  have HALL : Hid (withEach fits (ns.take n) ms = withEach fits ns ms) := by rw [Hid, ← hnn, List.take_length]
  have HLEN : Hid (∀ k, k ≤ n → (withEach fits (ns.take k) ms).length ≤ 4096) := fun k hk => by
    have h := withEach_len fits ms (ns.take k)
    rw [List.length_take, hmm] at h
    have : min k ns.length * m ≤ 64 * 64 := Nat.mul_le_mul (by omega) hm
    omega
  clear hq hF hns hms hA hB hnn hmm
  go_enter Try.func69, Try.ntmps69
  go_wp2_with fail
  go_loopw [7, 14] (fun v i wr => ∃ k : Nat, k ≤ n ∧ i = .int .i64 (k : Nat) ∧ OwnI wr (w.heap.size + 1) v (natI (withEach fits (ns.take k) ms)) ∧ wr.cell? ⟨w.heap.size, 0, none⟩ = some (.func (.func F) #[] #[]) ∧ Below w.heap.size w wr ∧ w.heap.size < wr.heap.size) (fun _ i _ => n - (intOf i).toNat)
  case atStart => exact ⟨0, by omega, rfl, OwnI.nil _ _, C0, B0, by simp⟩
  case round =>
    clear C0 B0
    obtain ⟨k, hk, rfl, own, hc5, hb, hsz⟩ := hrel
    by_cases hlt : k < n
    · have k1 : k < ns.length := by rw [HN.out]; exact hlt
      have hx8 := HNS.out _ (nat_mem k1)
      obtain ⟨b, off, rfl, hbb, g1⟩ := (HA.out.below hb (Nat.le_refl _)) k _ (nat_at k1)
      have HNEXT := Lib.hid (withEach_take fits ns ms k1)
      have hlen := HLEN.out k (by omega)
      generalize ns.getD k 0 = x at *
      generalize withEach fits (ns.take k) ms = done at *
      clear k1
      have hb2 := (Below.refl wr.heap.size wr).alloc (Nat.le_refl _) (.cells #[.int .i64 x] 3)
      have c9 : (wr.alloc (.cells #[.int .i64 x] 3)).cell? ⟨wr.heap.size, 0, none⟩ = some (.int .i64 x) := by rw [World.cell?_alloc_at _ _ _ _ rfl]; rfl
      have hin2 := (HB.out.below (hb.trans (hb2.mono (by omega))) (Nat.le_refl _)).more (B' := (wr.alloc (.cells #[.int .i64 x] 3)).heap.size) (by simp; omega)
      have c5 := (hb2.cell (p := ⟨w.heap.size, 0, none⟩) hsz).trans hc5
      have HS := sieve_any 118 #[.pointer (some ⟨w.heap.size, 0, none⟩), .pointer (some ⟨wr.heap.size, 0, none⟩)] (fun y => fits x y.toNat) B d (natI ms) (wr.alloc (.cells #[.int .i64 x] 3)) hin2 (by rw [natI_length, HM.out]; omega)
        (fun _ _ => rfl) (fun u hu y hy => by
          obtain ⟨p, hp, rfl⟩ := List.mem_map.1 hy
          exact eachOne_any F fits x p w.heap.size wr.heap.size u ((hu.cell (p := ⟨w.heap.size, 0, none⟩) (by simp; omega)).trans c5) ((hu.cell (p := ⟨wr.heap.size, 0, none⟩) (by simp)).trans c9) HF.out (HQ.out u x p hx8 (HMS.out p hp)))
      rw [natI_length, HM.out, natI_filter] at HS
      have ef : (ms.filter fun y : Nat => fits x ((y : Nat) : Int).toNat) = ms.filter (fits x) := rfl
      rw [ef] at HS
      have HONE : Hid ((ms.filter (fits x)).map (fun y => x ||| y) = withOne fits ms x) := rfl
      have hfl : (ms.filter (fits x)).length ≤ 64 := Nat.le_trans (List.length_filter_le _ _) (by rw [HM.out]; exact hm)
      have hf8 : Hid (∀ y ∈ ms.filter (fits x), y ≤ 8192) := fun y hy => HMS.out y (List.mem_filter.1 hy).1
      generalize ms.filter (fits x) = fs at *
      have HS := Lib.hid HS
      have C9 := Lib.hid c9
      have C5 := Lib.hid c5
      have hg : w.heap.size + 1 ≤ wr.heap.size := by omega
      have O1 := own.below hb2 own.lt
      have olt := own.lt
      clear c9 c5 hin2 ef
      go_wp2_with fail
      refine HS.out.mono ?_
      clear HS
      rintro e1 w1 ⟨A1, k1, rfl, own1, hb3⟩
      rw [natI_length] at own1 ⊢
      have hwz : (wr.alloc (.cells #[.int .i64 x] 3)).heap.size = wr.heap.size + 1 := by simp
      rw [hwz] at own1 hb3
      have sz1 := hb3.size
      rw [hwz] at sz1
      have BT := Between.of own1
      have D9 := (hb3.cell (p := ⟨wr.heap.size, 0, none⟩) (by simp)).trans C9.out
      have D5 := (hb3.cell (p := ⟨w.heap.size, 0, none⟩) (by simp; omega)).trans C5.out
      have O2 := O1.below hb3 (fun kb hkb => by have := olt kb hkb; omega)
      have hb4 : Below w.heap.size w w1 := hb.trans ((hb2.mono (by omega)).trans (hb3.mono (by omega)))
      have O3 : OwnI w1 (w.heap.size + 1) u7 (natI (done ++ (fs.take 0).map (fun y => x ||| y))) := by rw [List.take_zero, List.map_nil, List.append_nil]; exact O2
      have HD5 : Hid ((wr.alloc (.cells #[.int .i64 x] 3)).cell? ⟨w.heap.size, 0, none⟩ = some (.func (.func F) #[] #[])) := C5.out
      clear C9 C5 O1 O2 own own1 hb3 hb2 hb hwz g1 hc5
      obtain ⟨z, hz⟩ : ∃ z, wr.heap.size = z := ⟨_, rfl⟩
      rw [hz] at BT sz1 D9 olt hg ⊢
      clear hz HD5
      obtain ⟨z3, hz3⟩ : ∃ z3, w1.heap.size = z3 := ⟨_, rfl⟩
      rw [hz3] at BT sz1
      obtain ⟨l, hfl2⟩ : ∃ l, fs.length = l := ⟨_, rfl⟩
      rw [hfl2] at hfl ⊢
      have HFL := Lib.hid hfl2
      have hsz4 : z3 ≤ w1.heap.size := by omega
      have HZ3 := Lib.hid hz3
      clear hfl2 hz3
      have olt3 : ∀ kb, u7.ownBlock = some kb → kb < z ∨ z3 ≤ kb := fun kb hkb => .inl (olt kb hkb)
      clear olt
      go_wp2_with fail
      go_loopw [7, 22] (fun v i wv => ∃ j : Nat, j ≤ l ∧ i = .int .i64 (j : Nat) ∧ OwnI wv (w.heap.size + 1) v (natI (done ++ (fs.take j).map (fun y => x ||| y))) ∧ (∀ kb, v.ownBlock = some kb → kb < z ∨ z3 ≤ kb) ∧ Between wv (z + 1) z3 A1 (natI fs) ∧
        wv.cell? ⟨z, 0, none⟩ = some (.int .i64 x) ∧ wv.cell? ⟨w.heap.size, 0, none⟩ = some (.func (.func F) #[] #[]) ∧ Below w.heap.size w wv ∧ z3 ≤ wv.heap.size) (fun _ i _ => l - (intOf i).toNat)
      case atStart => exact ⟨0, by omega, rfl, O3, olt3, BT, D9, D5, hb4, hsz4⟩
      case round =>
        clear O3 olt3 BT D9 D5 hb4 hsz4
        obtain ⟨j, hj, rfl, ownv, hvb, BT, D9, D5, hb4, hsz4⟩ := hrel
        by_cases hlj : j < l
        · have j1 : j < fs.length := by rw [HFL.out]; exact hlj
          have hy8 := hf8.out _ (nat_mem j1)
          obtain ⟨g, rfl, hg1, hg2, hg3⟩ := BT j _ (nat_at j1)
          have HNXT := Lib.hid (map_take_more x fs j1)
          have hlen2 : (natI (done ++ (fs.take j).map (fun y => x ||| y))).length ≤ 4200 := by
            rw [natI_length, List.length_append, List.length_map, List.length_take]; omega
          generalize fs.getD j 0 = y at *
          have ho := or_small hx8 hy8
          have HNEW : Hid (natI (done ++ (fs.take (j + 1)).map (fun y => x ||| y)) = natI (done ++ (fs.take j).map (fun y => x ||| y)) ++ [((x ||| y : Nat) : Int)]) := by
            rw [Hid, HNXT.out, ← List.append_assoc, natI_app]; rfl
          generalize natI (done ++ (fs.take j).map (fun y => x ||| y)) = cur at *
          generalize x ||| y = q at *
          clear HNXT j1
          go_wp2_with (at_builtin; refine wpList_append_lies _ rfl _ _ 23 rfl (w.heap.size + 1) 3 i0 (.int .i64 0) 1 8 Try.underlying23 hi0 hz0 hz1 hz2 rfl (by decide) _ _ _ rfl (World.ownsRow.alloc ownv _) ⟨wr.heap.size, 0, none⟩ 1 1 [.int .i64 (q : Nat)] rfl rfl (one_cell (q : Nat) _ _) (by intro u hu; simp at hu; subst hu; rfl) (by decide) (by unfold maxLen; omega) (by omega) (by simp; omega) _ rfl ?_; intro gg cc w5 hown5 hgrow hat hlt5)
          go_roundw
          case rel =>
            have hsz5 := hgrow.size
            simp only [World.size_alloc] at hsz5 hat
            have hlv := World.ownsRow.lt ownv
            have hb5 : Below w.heap.size w w5 := (hb4.alloc hb4.size _).grown hgrow (by simp; omega) (fun kb hkb => by have := hlv kb hkb; omega)
            refine ⟨j + 1, by omega, by go_num, ?_, ?_, (BT.alloc hsz4 _).grown hgrow (by simp; omega) (fun kb hkb => by have := hvb kb hkb; have := hlv kb hkb; omega), ?_, ?_, hb5, by omega⟩
            · rw [HNEW.out]
              unfold OwnI
              rw [ints_append, List.length_append]; exact hown5
            · intro kb hkb
              have e : gg = kb := Option.some.inj hkb
              subst e
              rcases hat with h | h
              · exact hvb _ h
              · exact .inr (by omega)
            · refine (cell_same ((hgrow.block z (by simp; omega) fun e => ?_).trans (alloc_heap8 (by omega)))).trans D9
              have h1 := hvb z e.symm
              omega
            · refine (cell_same ((hgrow.block w.heap.size (by simp; omega) fun e => ?_).trans (alloc_heap8 (by omega)))).trans D5
              have h1 := hlv _ e.symm
              omega
          case measure => simp [intOf]; omega
        · obtain rfl : j = l := by omega
          have HEND : Hid (natI (done ++ (fs.take j).map (fun y => x ||| y)) = natI (withEach fits (ns.take (k + 1)) ms)) := by
            rw [Hid, HNEXT.out, ← HONE.out, ← HFL.out, List.take_length]
          rw [HEND.out] at ownv
          go_wp2_with fail
          go_roundw
          case rel => exact ⟨k + 1, by omega, by go_num, ownv, D5, hb4, by omega⟩
          case measure => simp [intOf]; omega
    · obtain rfl : k = n := by omega
      rw [HALL.out] at own
      rcases own.form with ⟨rfl, h0⟩ | ⟨g, cc, rfl, _, _⟩
      · go_wp2_with fail
        go_returns
        refine ⟨none, 0, by rw [h0]; rfl, ?_, hb⟩
        rw [h0] at own ⊢
        exact own.more (by omega)
      · go_wp2_with fail
        go_returns
        exact ⟨some ⟨g, 0, none⟩, cc, rfl, own.more (by omega), hb⟩
end Go.Proofs.Ytmdmmebekicpkaa

/- Whether a family is one, and whether a state is in it; a family of a list: the program's. -/
namespace Go.Proofs.Ytmdmmebekicpkaa
open Go.RowKit
set_option maxRecDepth 100000

set_option maxHeartbeats 1000000 in
theorem familyOf_any (T : Nat) (t : Int) (A : Option Addr) (c m : Nat) (ls : List Nat) (w : World) (hT : T ≤ 9) (hin : IntsIn w w.heap.size A (natI ls)) (hm : ls.length = m) (hl : m ≤ 1048576) (hls : ∀ x ∈ ls, x < 2 ^ T) :
    Calls Try.prog 59 #[.int .i64 t, .slice A m c] w (MadeFam w t (natI (famOf T ls))) := by
  have HL := leastOf_any T A c ls (w.alloc (.cells #[.int .i64 0, .slice none 0 0] 27)) hT ((hin.alloc (Nat.le_refl _) _).more (by simp)) (by omega) hls
  rw [hm] at HL
  have HL := Lib.hid HL
  have hb0 := (Below.refl w.heap.size w).alloc (Nat.le_refl _) (.cells #[.int .i64 0, .slice none 0 0] 27)
  have q0 : (w.alloc (.cells #[.int .i64 0, .slice none 0 0] 27)).cell? ⟨w.heap.size, 0, none⟩ = some (.int .i64 0) := by rw [World.cell?_alloc_at _ _ _ _ rfl]; rfl
  have q1 : (w.alloc (.cells #[.int .i64 0, .slice none 0 0] 27)).cell? ⟨w.heap.size, 1, none⟩ = some (.slice none 0 0) := by rw [World.cell?_alloc_at _ _ _ _ rfl]; rfl
  have r0 : (w.alloc (.cells #[.int .i64 0, .slice none 0 0] 27)).frozen? ⟨w.heap.size, 0, none⟩ = false := World.frozen?_alloc_at _ _ _ _ rfl
  have r1 : (w.alloc (.cells #[.int .i64 0, .slice none 0 0] 27)).frozen? ⟨w.heap.size, 1, none⟩ = false := World.frozen?_alloc_at _ _ _ _ rfl
  generalize natI (famOf T ls) = R at *
  clear hin hls hm
  go_enter Try.func59, Try.ntmps59
  go_wp2_with fail
  refine HL.out.mono ?_
  rintro e1 w1 ⟨A1, c1, rfl, own, hb⟩
  have d0 := (hb.cell (p := ⟨w.heap.size, 0, none⟩) (by simp)).trans q0
  have d1 := (hb.cell (p := ⟨w.heap.size, 1, none⟩) (by simp)).trans q1
  have e0 := (hb.frozen (p := ⟨w.heap.size, 0, none⟩) (by simp)).trans r0
  have e1 := (hb.frozen (p := ⟨w.heap.size, 1, none⟩) (by simp)).trans r1
  have hb2 := hb0.trans (hb.mono (by simp))
  have hge := own.ge
  simp only [World.size_alloc] at hge
  clear q0 q1 r0 r1 HL hb0 hb
  go_wp2_with fail
  refine bodyPost_ret (v := .agg #[.int .i64 t, .slice A1 R.length c1]) (by simp [results, Try.results59, go_sem, *]) rfl ?_
  refine ⟨A1, c1, rfl, OwnI.far (OwnI.far (own.more (by simp)) ?_ _) ?_ _, Below.setCell (Below.setCell hb2 (by simp) _) (by simp) _⟩
  · intro k hk; have := hge k hk; simp; omega
  · intro k hk; have := hge k hk; simp; omega

/-- A family's own box, in a world: its two cells, and what the row holds. -/
def BoxFam (w u : World) (t : Int) (A : Option Addr) (m c : Nat) (xs : List Int) : Prop := u.cell? ⟨w.heap.size, 0, none⟩ = some (.int .i64 t) ∧ u.cell? ⟨w.heap.size, 1, none⟩ = some (.slice A m c) ∧ ArgFam w u w.heap.size t A c xs
theorem BoxFam.of {w u : World} {t : Int} {A : Option Addr} {m c : Nat} {xs : List Int} (hm : xs.length = m) (h : ArgFam w u w.heap.size t A c xs) : BoxFam w u t A m c xs := ⟨h.c0, by rw [← hm]; exact h.c1, h⟩
theorem BoxFam.next {w u v : World} {t : Int} {A : Option Addr} {m c : Nat} {xs : List Int} (h : BoxFam w u t A m c xs) (hb : Below u.heap.size u v) : BoxFam w v t A m c xs :=
  ⟨(hb.cell (p := ⟨w.heap.size, 0, none⟩) h.2.2.lt).trans h.1, (hb.cell (p := ⟨w.heap.size, 1, none⟩) h.2.2.lt).trans h.2.1, h.2.2.next hb⟩
theorem BoxFam.drew {w u : World} {t : Int} {A : Option Addr} {m c : Nat} {xs : List Int} (h : BoxFam w u t A m c xs) : BoxFam w u.drew t A m c xs := h.next ((Below.refl _ _).drew)

set_option maxHeartbeats 4000000 in
theorem familyOk_any (t : Int) (A : Option Addr) (c : Nat) (xs : List Int) (w : World) (hin : IntsIn w w.heap.size A xs) (hl : xs.length ≤ 1048576) :
    Calls Try.prog 22 #[.agg #[.int .i64 t, .slice A xs.length c]] w fun e w' => e = .returned (.bool (famOkB t xs)) ∧ Below w.heap.size w w' := by
  have F0 := ArgFam.start (t := t) (c := c) 27 hin
  obtain ⟨m, hm⟩ : ∃ m, xs.length = m := ⟨_, rfl⟩
  have D0 := BoxFam.of hm F0
  rw [hm] at D0
  have HT : ∀ u, BoxFam w u t A m c xs → Calls Try.prog 58 #[.int .i64 t, .slice A m c] u fun e w' => e = .returned (.bool (listOkB t xs)) ∧ Below u.heap.size u w' := fun u h => by
    rw [← hm]; exact listThings_any t A c xs u h.2.2.ints (by unfold maxLen; omega)
  have c0 := D0.1
  have c1 := D0.2.1
  cases hL : listOkB t xs with
  | false =>
    have HV : Hid (famOkB t xs = false) := famOk_not hL
    rw [hm]
    rw [hL] at HT
    have HT := Lib.hid HT
    clear hL hin F0
    go_enter Try.func22, Try.ntmps22
    go_wp2_with fail
    refine wp_region_class (fun u => BoxFam w u t A m c xs) (by kernel_rfl) (by kernel_rfl) D0.drew ?_
    intro X hX f hf hex
    have k0 : ∀ x, (f x).cell? ⟨w.heap.size, 0, none⟩ = some (.int .i64 t) := fun x => (hf x).1
    have k1 : ∀ x, (f x).cell? ⟨w.heap.size, 1, none⟩ = some (.slice A m c) := fun x => (hf x).2.1
    repeat (go_big_quiet_step (first | (go_at_call 58; with_reducible exact class_of hex (HT.out _ (hf _)) (fun _ hb => (hf _).next hb))))
    refine wpQuiet_nil ?_
    rintro _ ⟨x, rfl⟩
    have L4 := hf x
    go_wp2_with fail
    go_returns
    exact ⟨retB HV.out.symm, L4.2.2.below⟩
  | true =>
    rw [hm]
    rw [hL] at HT
    have HT := Lib.hid HT
    obtain ⟨T, ls, rfl, hT, rfl, hls⟩ := listOk_iff.1 hL
    have HV := Lib.hid (famOk_list (ls := ls) hT)
    have hm2 : ls.length = m := by rw [← hm, natI_length]
    have HLE : Hid (∀ u, BoxFam w u (T : Nat) A m c (natI ls) → Calls Try.prog 66 #[.slice A m c] u (GotInts u (natI (famOf T ls)))) := fun u h => by
      rw [← hm2]; exact leastOf_any T A c ls u (by omega) h.2.2.ints (by omega) hls
    have HEQ : Hid (∀ u A2 c2, BoxFam w u (T : Nat) A m c (natI ls) → IntsIn u u.heap.size A2 (natI (famOf T ls)) → Calls Try.prog 65 #[.slice A m c, .slice A2 (natI (famOf T ls)).length c2] u fun e w' => e = .returned (.bool (decide (natI ls = natI (famOf T ls)))) ∧ Below u.heap.size u w') := fun u A2 c2 h hi => by
      rw [← hm]; exact equal_any A A2 c c2 (natI ls) (natI (famOf T ls)) u h.2.2.ints hi (by rw [hm]; unfold maxLen; omega)
    rw [HV.out]
    have hmid := hm
    generalize natI (famOf T ls) = R at *
    generalize natI ls = zs at *
    clear HV hL hls hm hm2 hin F0 hmid
    generalize hd : decide (zs = R) = v at *
    clear hd
    have D1 := D0.drew
    go_enter Try.func22, Try.ntmps22
    go_wp2_with fail
    go_region_held3 (fun w' => w'.cell? ⟨w.heap.size, 0, none⟩ = some (.int .i64 (T : Nat)) ∧ w'.cell? ⟨w.heap.size, 1, none⟩ = some (.slice A m c) ∧ ArgFam w w' w.heap.size (T : Nat) A c zs) (first | exact D1 | exact D2 | exact D3 | exact D4) (first
      | (go_simp; go_at_call 65; (with_reducible refine (HEQ.out _ _ _ D3 own3.ints).mono ?_); rintro e4 w4 ⟨rfl, hb4⟩; have D4 := D3.next hb4)
      | (go_simp; go_at_call 66; (with_reducible refine (HLE.out _ D2).mono ?_); rintro e3 w3 ⟨A3, k3, rfl, own3, hb3⟩; have D3 := D2.next hb3)
      | (go_simp; go_at_call 58; (with_reducible refine (HT.out _ D1).mono ?_); rintro e2 w2 ⟨rfl, hb2⟩; have D2 := D1.next hb2))
    all_goals
      go_wp2_with fail
      go_returns
      exact ⟨rfl, D4.2.2.below⟩
end Go.Proofs.Ytmdmmebekicpkaa
