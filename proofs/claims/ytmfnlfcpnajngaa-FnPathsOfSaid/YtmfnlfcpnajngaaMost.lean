/- The fewest there, and how many are apart: the program's. -/
import Derived.Test.YtmfnlfcpnajngaaSieve
import Derived.Test.YtmfnlfcpnajngaaList4
import Derived.Test.YtmfnlfcpnajngaaImpl2
namespace Go.Proofs.Ytmfnlfcpnajngaa
open Go.RowKit
set_option maxRecDepth 100000

theorem natI_at {xs : List Nat} {k : Nat} (h : k < xs.length) : (natI xs)[k]? = some ((xs.getD k 0 : Nat) : Int) := by
  refine natI_get ?_
  simp [List.getD, h]
theorem getD_mem {xs : List Nat} {k : Nat} (h : k < xs.length) : xs.getD k 0 ∈ xs := by
  have : xs.getD k 0 = xs[k] := by simp [List.getD, h]
  rw [this]; exact List.getElem_mem h

theorem fewestThere_any (A : Option Addr) (cap : Nat) (xs : List Nat) (w : World) (hxs : IntsIn w w.heap.size A (natI xs)) (hl : xs.length ≤ 1048576) (hx : ∀ x ∈ xs, x < 512) :
    Calls Try.prog 57 #[.slice A xs.length cap] w fun e w' => e = .returned (.int .i64 (minAll xs)) ∧ w = w' := by
  have HX := Lib.hid hx
  obtain ⟨m, hm⟩ : ∃ m, xs.length = m := ⟨_, rfl⟩
  have HA : Hid (minAll xs = minTo xs m) := by rw [Hid, ← hm]; rfl
  rw [hm] at hl ⊢
  have HM := Lib.hid hm
  clear hm hx
  go_enter Try.func57, Try.ntmps57
  go_wp2_with fail
  go_loopw [3, 9] (fun v i wr => ∃ k : Nat, k ≤ m ∧ i = .int .i64 (k : Nat) ∧ v = .int .i64 (minTo xs k) ∧ wr = w) (fun _ i _ => m - (intOf i).toNat)
  case atStart => exact ⟨0, by omega, rfl, rfl, rfl⟩
  case round =>
    obtain ⟨k, hk, rfl, rfl, rfl⟩ := hrel
    by_cases hlt : k < m
    · have k1 : k < xs.length := by have := HM.out; omega
      obtain ⟨b, off, rfl, hbb, g1⟩ := hxs k _ (natI_at k1)
      have h512 := HX.out _ (getD_mem k1)
      have hM : ∀ v, Calls Try.prog 79 #[.int .u64 (xs.getD k 0 : Nat)] v fun e w' => e = .returned (.int .i64 (pop (xs.getD k 0))) ∧ v = w' := fun v => size_any _ v h512
      have hlow := minTo_low xs k
      have hnext : minTo xs (k + 1) = if minTo xs k < 0 ∨ (pop (xs.getD k 0) : Int) < minTo xs k then ((pop (xs.getD k 0) : Nat) : Int) else minTo xs k := rfl
      generalize xs.getD k 0 = x at *
      have hcv : IntKind.u64.wrap (x : Int) = (x : Int) := by unfold IntKind.wrap; simp [IntKind.bits, IntKind.signed]; omega
      generalize pop x = p at *
      generalize hf : minTo xs k = f at *
      clear hf
      by_cases h1 : f = -1
      · subst h1
        have HN : Hid (minTo xs (k + 1) = (p : Int)) := by rw [Hid, hnext, if_pos (.inl (by omega))]
        clear hnext hxs hlow
        go_wp2_with fail
        refine (hM _).mono ?_
        rintro e1 w1 ⟨rfl, rfl⟩
        go_wp2_with fail
        go_roundw
        case rel => exact ⟨k + 1, by omega, by go_num, by rw [HN.out], by first | rfl | trivial⟩
        case measure => simp [intOf]; omega
      · have h2 : (f == -1) = false := by simpa using h1
        by_cases h3 : (p : Int) < f
        · have HN : Hid (minTo xs (k + 1) = (p : Int)) := by rw [Hid, hnext, if_pos (.inr h3)]
          clear hnext hxs hlow
          go_wp2_with fail
          refine (hM _).mono ?_
          rintro e1 w1 ⟨rfl, rfl⟩
          go_wp2_with fail
          go_roundw
          case rel => exact ⟨k + 1, by omega, by go_num, by rw [HN.out], by first | rfl | trivial⟩
          case measure => simp [intOf]; omega
        · have HN : Hid (minTo xs (k + 1) = f) := by rw [Hid, hnext, if_neg (by omega)]
          clear hnext hxs hlow
          go_wp2_with fail
          refine (hM _).mono ?_
          rintro e1 w1 ⟨rfl, rfl⟩
          go_wp2_with fail
          go_roundw
          case rel => exact ⟨k + 1, by omega, by go_num, by rw [HN.out], by first | rfl | trivial⟩
          case measure => simp [intOf]; omega
    · obtain rfl : k = m := by omega
      go_wp2_with fail
      go_returns
      exact ⟨retI HA.out.symm, rfl⟩

theorem apartTest_any (x y g : Nat) (u : World) (c0 : u.cell? ⟨g, 0, none⟩ = some (.int .i64 y)) (hx : x < 512) (hy : y < 512) :
    Calls Try.prog 80 #[.int .i64 x, .pointer (some ⟨g, 0, none⟩)] u fun e w' => e = .returned (.bool (decide (x &&& y = 0))) ∧ Below u.heap.size u w' := by
  have hb := and_i64 hx hy
  by_cases h : x &&& y = 0
  · have HD : Hid (decide (x &&& y = 0) = true) := by simp [Hid, h]
    rw [h] at hb
    go_enter Try.func80, Try.ntmps80
    go_wp2_with fail
    go_returns
    exact ⟨retB (by rw [HD.out]), Below.refl _ _⟩
  · have HD : Hid (decide (x &&& y = 0) = false) := by simp [Hid, h]
    generalize x &&& y = z at *
    have hz : (((z : Nat) : Int) == 0) = false := by simp; omega
    go_enter Try.func80, Try.ntmps80
    go_wp2_with fail
    go_returns
    exact ⟨retB (by rw [HD.out]), Below.refl _ _⟩

theorem max_if (z r : Nat) : (if (z : Int) < 1 + (r : Int) then 1 + (r : Int) else (z : Int)) = ((max z (1 + r) : Nat) : Int) := by
  rw [Nat.max_def]; split <;> split <;> omega
/-- What mostApart says of a list. -/
def MostOn (xs : List Nat) : Prop :=
  ∀ (A : Option Addr) (cap : Nat) (w : World), IntsIn w w.heap.size A (natI xs) → xs.length ≤ cap → Calls Try.prog 61 #[.slice A xs.length cap] w fun e w' => e = .returned (.int .i64 (aparts xs 0 : Nat)) ∧ Below w.heap.size w w'

set_option maxHeartbeats 2000000 in
theorem mostApart_step (xs : List Nat) (hl : xs.length ≤ 1048576) (hx : ∀ x ∈ xs, x < 512) (ih : ∀ ys : List Nat, ys.length < xs.length → (∀ y ∈ ys, y < 512) → MostOn ys) : MostOn xs := by
  intro A cap w hxs hcap
  have HX := Lib.hid hx
  have HI := Lib.hid ih
  obtain ⟨m, hm⟩ : ∃ m, xs.length = m := ⟨_, rfl⟩
  have HA : Hid (mostTo xs m = aparts xs 0) := by rw [Hid, ← hm]; exact mostTo_all xs
  rw [hm] at hl hcap ⊢
  have HM := Lib.hid hm
  have hmf : ∀ (fn : Fn) (first cap : Array Value) (w : World), (Instr.makeFunc fn first cap).run Try.prog w = .ok (.func fn first cap) w := fun _ _ _ _ => rfl
  clear hm hx ih
  go_enter Try.func61, Try.ntmps61
  go_wp2_with fail
  go_loopw [3, 9] (fun v i wr => ∃ k : Nat, k ≤ m ∧ i = .int .i64 (k : Nat) ∧ v = .int .i64 (mostTo xs k : Nat) ∧ Below w.heap.size w wr) (fun _ i _ => m - (intOf i).toNat)
  case atStart => exact ⟨0, by omega, rfl, rfl, Below.refl _ _⟩
  case round =>
    obtain ⟨k, hk, rfl, rfl, hb⟩ := hrel
    by_cases hlt : k < m
    · have k1 : k < xs.length := by have := HM.out; omega
      obtain ⟨b, off, rfl, hbb, g1⟩ := (hxs.below hb (Nat.le_refl _)) k _ (natI_at k1)
      have h512 := HX.out _ (getD_mem k1)
      have hle := mostTo_le xs k
      rw [HM.out] at hle
      have hnext : mostTo xs (k + 1) = max (mostTo xs k) (1 + aparts ((xs.drop (k + 1)).filter fun y => decide (y &&& xs.getD k 0 = 0)) 0) := rfl
      have hys := HI.out ((xs.drop (k + 1)).filter fun y => decide (y &&& xs.getD k 0 = 0)) (by
        have := List.length_filter_le (fun y => decide (y &&& xs.getD k 0 = 0)) (xs.drop (k + 1))
        rw [List.length_drop] at this; omega) (fun y hy => HX.out y (List.mem_of_mem_drop (List.mem_filter.1 hy).1))
      have hlen := aparts_len ((xs.drop (k + 1)).filter fun y => decide (y &&& xs.getD k 0 = 0)) 0
      have hlen2 := List.length_filter_le (fun y => decide (y &&& xs.getD k 0 = 0)) (xs.drop (k + 1))
      rw [List.length_drop, HM.out] at hlen2
      have hrest : natI ((xs.drop (k + 1)).filter fun y => decide (y &&& xs.getD k 0 = 0)) = (natI (xs.drop (k + 1))).filter fun y => decide (y.toNat &&& xs.getD k 0 = 0) := by rw [natI_filter]; rfl
      have hdl : (natI (xs.drop (k + 1))).length = m - (k + 1) := by rw [natI_length, List.length_drop, HM.out]
      have hD : ∀ y ∈ natI (xs.drop (k + 1)), ∃ t : Nat, y = (t : Int) ∧ t < 512 := fun y hy => by
        obtain ⟨t, ht, rfl⟩ := List.mem_map.1 hy
        exact ⟨t, rfl, HX.out t (List.mem_of_mem_drop ht)⟩
      have hDr : ∀ j x, (natI (xs.drop (k + 1)))[j]? = some x → (natI xs)[k + 1 + j]? = some x := fun j x h => by rw [natI_drop, List.getElem?_drop] at h; exact h
      generalize natI (xs.drop (k + 1)) = ds at *
      generalize (xs.drop (k + 1)).filter (fun y => decide (y &&& xs.getD k 0 = 0)) = ys at *
      obtain ⟨r, hr⟩ : ∃ r, aparts ys 0 = r := ⟨_, rfl⟩
      rw [hr] at hnext hlen
      have HRr := Lib.hid hr
      clear hr
      have hMx := max_if (mostTo xs k) r
      generalize max (mostTo xs k) (1 + r) = M at *
      generalize xs.getD k 0 = x at *
      have HR := Lib.hid hrest
      have HN := Lib.hid hnext
      have HY := Lib.hid hys
      have HDs := Lib.hid hdl
      generalize mostTo xs k = z at *
      have w1' : IntKind.i64.wrap ((k : Int) + 1) = ((k + 1 : Nat) : Int) := by rw [IntWalk.i64_in _ (by omega)]; omega
      have w2' : IntKind.i64.wrap (1 + (r : Int)) = ((1 + r : Nat) : Int) := by rw [IntWalk.i64_in _ (by omega)]; omega
      have w3' : wrap64 (1 + (r : Int)) = ((1 + r : Nat) : Int) := by unfold wrap64; omega
      have b2 : (k : Int) + 1 ≤ (m : Int) := by omega
      have hbx := (Below.refl wr.heap.size wr).alloc (Nat.le_refl _) (.cells #[.int .i64 (x : Int)] 3)
      have cx : (wr.alloc (.cells #[.int .i64 (x : Int)] 3)).cell? ⟨wr.heap.size, 0, none⟩ = some (.int .i64 x) := by rw [World.cell?_alloc_at _ _ _ _ (by simp)]; rfl
      have HS : Hid (∀ (A1 : Option Addr) (c1 n1 : Nat), n1 = m - (k + 1) → IntsIn (wr.alloc (.cells #[.int .i64 (x : Int)] 3)) wr.heap.size A1 ds →
          Calls Try.prog 70 #[.slice A1 n1 c1, .func (.func 80) #[] #[.pointer (some ⟨wr.heap.size, 0, none⟩)]] (wr.alloc (.cells #[.int .i64 (x : Int)] 3)) (GotInts (wr.alloc (.cells #[.int .i64 (x : Int)] 3)) (natI ys))) := by
        intro A1 c1 n1 hn1 hin
        rw [HR.out, hn1, ← hdl]
        refine sieve_any 80 #[.pointer (some ⟨wr.heap.size, 0, none⟩)] _ A1 c1 ds _ (hin.more (by simp)) (Nat.le_trans (Nat.le_of_eq hdl) (Nat.le_trans (Nat.sub_le _ _) hl)) (fun _ _ => rfl) (fun u hu y hy => ?_)
        obtain ⟨t, rfl, ht⟩ := hD y hy
        exact apartTest_any t x _ u ((hu.cell (p := ⟨wr.heap.size, 0, none⟩) (by simp)).trans cx) ht h512
      have hb1 := hb.trans (hbx.mono hb.size)
      have hs1 : w.heap.size ≤ (wr.alloc (.cells #[.int .i64 (x : Int)] 3)).heap.size := hb1.size
      have hds : ∀ A1 : Option Addr, (ds = [] ∨ A1 = some ⟨b, off + (k + 1), none⟩) → IntsIn (wr.alloc (.cells #[.int .i64 (x : Int)] 3)) wr.heap.size A1 ds := by
        intro A1 h
        rcases h with rfl | rfl
        · exact IntsIn.nil
        · intro j v hj
          obtain ⟨b', off', e, hlt', c⟩ := (hxs.below hb1 (Nat.le_refl _)) _ v (hDr j v hj)
          injection e with e
          injection e with e1 e2
          subst e1 e2
          exact ⟨b, _, rfl, by have := hb.size; omega, by rw [← c]; congr 2; omega⟩
      have HD := Lib.hid hds
      clear hds hnext hrest hdl hDr hD hlen2 cx hbx
      by_cases hc : cap = k + 1
      · have hm : m = k + 1 := by omega
        subst hc hm
        have hds : ds = [] := List.eq_nil_of_length_eq_zero (by rw [HDs.out]; omega)
        have hS := HS.out (some ⟨b, off, none⟩) 0 0 (by omega) (HD.out _ (.inl hds))
        clear hys
        go_wp2_with fail
        refine hS.mono ?_
        rintro e1 w1 ⟨A1, c1, rfl, own1, hb2⟩
        have hb3 := hb1.trans (hb2.mono hs1)
        have hY := HY.out A1 c1 w1 (own1.ints) (by have := own1.cap; rwa [natI_length] at this)
        rw [HRr.out] at hY
        rw [natI_length]
        clear hS own1 hb2
        go_wp2_with fail
        refine hY.mono ?_
        rintro e2 w2 ⟨rfl, hb4⟩
        have hb5 := hb3.trans (hb4.mono hb3.size)
        clear hb4 hY
        go_wp2_with fail
        go_roundw
        case rel => first
          | exact ⟨k + 1, by omega, by go_num, by rw [HN.out], hb5⟩
          | ((repeat apply Exists.intro); refine ⟨⟨k + 1, by omega, ?_, ?_, hb5⟩, rfl⟩; (· go_num); (· rw [HN.out]))
        case measure => simp [intOf]; try omega
      · have hS := HS.out (some ⟨b, off + (k + 1), none⟩) (cap - (k + 1)) (m - (k + 1)) rfl (HD.out _ (.inr rfl))
        have hc' : ¬ (k + 1 = cap) := fun e => hc e.symm
        have b4 : (m : Int) ≤ (cap : Int) := by omega
        have b5 : ((k + 1 : Nat) : Int) ≤ (m : Int) := by omega
        clear hys
        go_wp2_with fail
        refine hS.mono ?_
        rintro e1 w1 ⟨A1, c1, rfl, own1, hb2⟩
        have hb3 := hb1.trans (hb2.mono hs1)
        have hY := HY.out A1 c1 w1 (own1.ints) (by have := own1.cap; rwa [natI_length] at this)
        rw [HRr.out] at hY
        rw [natI_length]
        clear hS own1 hb2
        go_wp2_with fail
        refine hY.mono ?_
        rintro e2 w2 ⟨rfl, hb4⟩
        have hb5 := hb3.trans (hb4.mono hb3.size)
        clear hb4 hY
        go_wp2_with fail
        go_roundw
        case rel => first
          | exact ⟨k + 1, by omega, by go_num, by rw [HN.out], hb5⟩
          | ((repeat apply Exists.intro); refine ⟨⟨k + 1, by omega, ?_, ?_, hb5⟩, rfl⟩; (· go_num); (· rw [HN.out]))
        case measure => simp [intOf]; try omega
    · obtain rfl : k = m := by omega
      go_wp2_with fail
      go_returns
      exact ⟨retI (by rw [HA.out]), hb⟩

theorem mostApart_any : ∀ (N : Nat) (xs : List Nat), xs.length ≤ N → N ≤ 1048576 → (∀ x ∈ xs, x < 512) → MostOn xs
  | 0, xs, h, _, hx => mostApart_step xs (by omega) hx fun ys hy _ => by omega
  | N + 1, xs, h, hN, hx => mostApart_step xs (by omega) hx fun ys hy hy2 => mostApart_any N ys (by omega) (by omega) hy2
end Go.Proofs.Ytmfnlfcpnajngaa
