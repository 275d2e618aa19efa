/- Trees of the program: ends joined, edges in a ring, edges where something is true, TreeOk. -/
import Derived.Test.YtdacfeebidhgnaaMore2
import Derived.Test.YtdacfeebidhgnaaEdgesAt
import Derived.Test.YtdacfeebidhgnaaEd
import Derived.Test.YtdacfeebidhgnaaArr
import Derived.Test.YtdacfeebidhgnaaBits7
namespace Go.Proofs.Ytdacfeebidhgnaa
open Go.RowKit
set_option maxRecDepth 100000

theorem less_testBit {s k : Nat} (hs : s < 512) (hk : k < 9) (hb : s.testBit k = true) (i : Nat) : (s - 2 ^ k).testBit i = (s.testBit i && decide (i ≠ k)) := by
  have h := (sub_bit hs hk (by simpa [bits] using hb)).2 i
  simpa [bits] using h
theorem bit_less {s k : Nat} (hs : s < 512) (_hk : k < 9) (hb : s.testBit k = true) : Go.bits .andNot .i64 (s : Int) ((2 ^ k : Nat) : Int) = ((s - 2 ^ k : Nat) : Int) := by
  have e : s &&& 2 ^ k = 2 ^ k := by
    apply Nat.eq_of_testBit_eq
    intro i
    rw [Nat.testBit_and, Nat.testBit_two_pow]
    by_cases h : k = i
    · subst h; simp [hb]
    · simp [h]
  rw [andNot_small _ (by omega), e]

theorem Way.drew {w u : World} {base g : Nat} {R : Nat → Nat} (h : Way w base g R u) : Way w base g R u.drew := by
  obtain ⟨hb, q, d, hA, hF⟩ := h
  exact ⟨hb.drew, q, d, hA.below ((Below.refl (g + 1) u).drew) (by omega), hF⟩

/-- An edge that is there, and its ends are joined without it, too. -/
def innerB (E : Nat → Nat × Nat) (m : Nat) (T : Nat → Bool) (o : Nat) : Bool := T o && metB E m (lessT T o) o
set_option maxHeartbeats 2000000 in
theorem edgesWhere_any (F : FuncId) (caps : Array Value) (q : Nat → Bool) (n : Int) (A : Option Addr) (cap : Nat) (es : List (Int × Int)) (w : World) (hes : EdgesIn w w.heap.size A es) (hl : es.length ≤ 9)
    (hF : ∀ (args : Array Value) (u : World), (callFunc F args).run Try.prog u = .ok (.enter F args) u)
    (hq : ∀ u, Below w.heap.size w u → ∀ k : Nat, k < es.length → Calls Try.prog F (#[.int .i64 k] ++ caps) u fun e w' => e = .returned (.bool (q k)) ∧ Below u.heap.size u w') :
    Calls Try.prog 75 #[.agg #[.int .i64 n, .slice A es.length cap], .func (.func F) #[] caps] w fun e w' => e = .returned (.int .i64 (setOf q es.length : Nat)) ∧ Below w.heap.size w w' := by
  have L0 := ArgNet.start (cap := cap) (n := n) 29 hes
  have HQ := Lib.hid hq
  obtain ⟨_, _, c0, c1, s0⟩ := id L0
  clear hq hes
  go_enter Try.func75, Try.ntmps75
  go_wp2_with fail
  go_loopw [5, 6, 10] (fun v _ t wr => ∃ k : Nat, k ≤ es.length ∧ t = .int .i64 (k : Nat) ∧ v = .int .i64 (setOf q k : Nat) ∧ Below w.heap.size w wr) (fun _ _ t _ => es.length - (intOf t).toNat)
  case atStart => exact ⟨0, by omega, rfl, rfl, L0.below⟩
  case round =>
    clear c0 c1 s0
    obtain ⟨k, hk, rfl, rfl, hb⟩ := hrel
    by_cases hlt : k < es.length
    · have hcall := HQ.out _ hb k hlt
      have z1 := setOf_le q (show k ≤ 9 by omega)
      have z2 : setOf q k < 512 := z1
      have hkmin : min k 64 = k := by omega
      have hor := or_bit (setOf q k) k z2 (by omega)
      have HS : Hid (setOf q (k + 1) = if q k = true then setOf q k ||| 2 ^ k else setOf q k) := rfl
      obtain ⟨P, hP, p1, p2, hp3, hp4⟩ := pow_named12 (show k ≤ 13 by omega)
      rw [hp3] at hor
      rw [hP] at hor HS
      clear z1 hP
      generalize setOf q k = y at *
      cases hv : q k with
      | true =>
        rw [hv, if_pos rfl] at HS
        rw [hv] at hcall
        go_wp2_with fail
        refine hcall.mono ?_
        clear hcall
        rintro e1 w1 ⟨rfl, hb1⟩
        have hb2 := hb.trans (hb1.mono hb.size)
        go_wp2_with fail
        go_roundw
        case rel => exact ⟨k + 1, by omega, by go_num, by rw [HS.out], hb2⟩
        case measure => simp [intOf]; omega
      | false =>
        rw [hv, if_neg (by simp)] at HS
        rw [hv] at hcall
        clear hor
        go_wp2_with fail
        refine hcall.mono ?_
        clear hcall
        rintro e1 w1 ⟨rfl, hb1⟩
        have hb2 := hb.trans (hb1.mono hb.size)
        go_wp2_with fail
        go_roundw
        case rel => exact ⟨k + 1, by omega, by go_num, by rw [HS.out], hb2⟩
        case measure => simp [intOf]; omega
    · obtain rfl : k = es.length := by omega
      go_wp2_with fail
      go_returns
      exact ⟨rfl, hb⟩

set_option maxHeartbeats 4000000 in
theorem treeOk_any (n s : Int) (A : Option Addr) (cap : Nat) (es : List (Int × Int)) (w : World) (hes : EdgesIn w w.heap.size A es) (hl : es.length ≤ 1048576) :
    Calls Try.prog 138 #[.agg #[.int .i64 n, .slice A es.length cap], .int .i64 s] w fun e w' => e = .returned (.bool (treeB n es s)) ∧ Below w.heap.size w w' := by
  have L0 := ArgNet.start (cap := cap) (n := n) 29 hes
  rw [← treeB_whole]
  cases hW : wholeB n es s with
  | false =>
    have HH : Hid (∀ u, ArgNet w u n A cap es → Calls Try.prog 56 #[.agg #[.int .i64 n, .slice A es.length cap], .int .i64 s] u fun e w' => e = .returned (.bool false) ∧ Below u.heap.size u w') := fun u h => wholeOk_is n s A cap es u h.edges hl _ hW
    rw [Bool.false_and]
    clear hW hes
    go_enter Try.func138, Try.ntmps138
    go_wp2_with fail
    refine wp_region_class (fun u => ArgNet w u n A cap es) (by kernel_rfl) (by kernel_rfl) L0.drew ?_
    clear L0
    intro X hX f hf hex
    have c0 : ∀ x, (f x).cell? ⟨w.heap.size, 0, none⟩ = some (.int .i64 n) := fun x => (hf x).c0
    have c1 : ∀ x, (f x).cell? ⟨w.heap.size, 1, none⟩ = some (.slice A es.length cap) := fun x => (hf x).c1
    repeat (go_big_quiet_step (first | (go_at_call 56; with_reducible exact class_of hex (HH.out _ (hf _)) (hf _).on)))
    refine wpQuiet_nil ?_
    rintro _ ⟨x, rfl⟩
    have F := hf x
    go_wp2_with fail
    go_returns
    exact ⟨by first | rfl | simp, F.below⟩
  | true =>
    have hs : stateOkB n es s = true := by
      cases h : stateOkB n es s with
      | true => rfl
      | false => rw [whole_not h] at hW; cases hW
    have hn := (netOkB_iff.1 (stateOkB_net hs)).1
    have ht := there_lt hs
    have HH : Hid (∀ u, ArgNet w u n A cap es → Calls Try.prog 56 #[.agg #[.int .i64 n, .slice A es.length cap], .int .i64 s] u fun e w' => e = .returned (.bool true) ∧ Below u.heap.size u w') := fun u h => wholeOk_is n s A cap es u h.edges hl _ hW
    obtain ⟨z, hz⟩ : ∃ z, thereI n es s = z := ⟨_, rfl⟩
    have HT : Hid (∀ u, ArgNet w u n A cap es → Calls Try.prog 86 #[.agg #[.int .i64 n, .slice A es.length cap], .int .i64 s] u fun e w' => e = .returned (.int .i64 z) ∧ Below u.heap.size u w') := fun u h => thereOf_is n s A cap es u h.edges hl _ hz
    have wn : IntKind.i64.wrap (n - 1) = n - 1 := IntWalk.i64_in _ (by omega)
    rw [hz, Bool.true_and]
    rw [hz] at ht
    clear hW hs hz hes
    go_enter Try.func138, Try.ntmps138
    go_wp2_with fail
    refine wp_region_class (fun u => ArgNet w u n A cap es) (by kernel_rfl) (by kernel_rfl) L0.drew ?_
    clear L0
    intro X hX f hf hex
    have c0 : ∀ x, (f x).cell? ⟨w.heap.size, 0, none⟩ = some (.int .i64 n) := fun x => (hf x).c0
    have c1 : ∀ x, (f x).cell? ⟨w.heap.size, 1, none⟩ = some (.slice A es.length cap) := fun x => (hf x).c1
    repeat (go_big_quiet_step (first | (go_at_call 56; with_reducible exact class_of hex (HH.out _ (hf _)) (hf _).on) | (go_at_call 86; with_reducible exact class_of hex (HT.out _ (hf _)) (hf _).on)))
    refine wpQuiet_nil ?_
    rintro _ ⟨x, rfl⟩
    have F := hf x
    go_wp2_with fail
    go_returns
    exact ⟨by first | rfl | simp, F.below⟩

def ringOk (n : Int) (es : List (Int × Int)) (s a : Int) : Bool := treeB n es s && ((decide (0 ≤ a) && decide (a < es.length)) && !bits s a.toNat)
def cutOk (n : Int) (es : List (Int × Int)) (s a : Int) : Bool := treeB n es s && ((decide (0 ≤ a) && decide (a < es.length)) && bits s a.toNat)
def ringI (n : Int) (es : List (Int × Int)) (s a : Int) : Int := if ringOk n es s a = true then (setOf (ringB (endsOf es) es.length (bits s) a.toNat) es.length : Nat) else -1
def cutI (n : Int) (es : List (Int × Int)) (s a : Int) : Int := if cutOk n es s a = true then (setOf (cutB (endsOf es) es.length (bits s) a.toNat) es.length : Nat) else -1

end Go.Proofs.Ytdacfeebidhgnaa
