/- Weights: WeightsOk and HeavyOf, of the program and of the reference. -/
import Derived.Test.YtdacfeebidhgnaaContains
import Derived.Test.YtdacfeebidhgnaaEdgesAt
import Derived.Test.YtdacfeebidhgnaaEd
import Derived.Test.YtdacfeebidhgnaaMore2
import Derived.Test.YtdacfeebidhgnaaPiecesOf
import Derived.Test.YtdacfeebidhgnaaBits7
namespace Go.Proofs.Ytdacfeebidhgnaa
open Go.RowKit
set_option maxRecDepth 100000

def wOne (x : Int) : Bool := decide (0 ≤ x) && decide (x ≤ 99)
def wBad (x : Int) : Bool := decide (x < 0) || decide (99 < x)
theorem wBad_not (x : Int) : wBad x = !wOne x := by
  unfold wBad wOne
  by_cases h1 : 0 ≤ x <;> by_cases h2 : x ≤ 99 <;> simp [h1, h2] <;> omega
theorem wBad_any (ws : List Int) : (!ws.any wBad) = ws.all wOne := by
  induction ws with
  | nil => rfl
  | cons x ws ih => rw [List.any_cons, List.all_cons, ← ih, wBad_not]; cases wOne x <;> simp
def weightsB (n : Int) (es : List (Int × Int)) (ws : List Int) : Bool := netOkB n es && (decide (ws.length = es.length) && ws.all wOne)

/-- The net's box, and the weights. -/
def NetWs (w u : World) (n : Int) (A : Option Addr) (cap : Nat) (es : List (Int × Int)) (B : Option Addr) (ws : List Int) : Prop := ArgNet w u n A cap es ∧ IntsIn u w.heap.size B ws
section
variable {w u u' : World} {n : Int} {A B : Option Addr} {cap : Nat} {es : List (Int × Int)} {ws : List Int}
theorem NetWs.on (h : NetWs w u n A cap es B ws) : ∀ u', Below u.heap.size u u' → NetWs w u' n A cap es B ws := fun _ hb => ⟨h.1.on _ hb, h.2.below hb (by have := h.1.lt; omega)⟩
theorem NetWs.ints (h : NetWs w u n A cap es B ws) : IntsIn u u.heap.size B ws := h.2.more (by have := h.1.lt; omega)
theorem NetWs.drew (h : NetWs w u n A cap es B ws) : NetWs w u.drew n A cap es B ws := h.on _ ((Below.refl _ _).drew)
theorem NetWs.start (t : TypeId) (hes : EdgesIn w w.heap.size A es) (hx : IntsIn w w.heap.size B ws) : NetWs w (w.alloc (.cells #[.int .i64 n, .slice A es.length cap] t)) n A cap es B ws :=
  ⟨ArgNet.start t hes, hx.alloc (Nat.le_refl _) _⟩
end

theorem wBad_call (x : Int) (w : World) : Calls Try.prog 147 #[.int .i64 x] w fun e w' => e = .returned (.bool (wBad x)) ∧ Below w.heap.size w w' := by
  unfold wBad
  by_cases h1 : x < 0
  · rw [decide_eq_true h1]
    go_enter Try.func147, Try.ntmps147
    go_wp2_with fail
    go_returns
    exact ⟨by first | rfl | simp, Below.refl _ _⟩
  · rw [decide_eq_false h1]
    have hd : decide (x < 0) = false := decide_eq_false h1
    by_cases h2 : 99 < x
    · rw [decide_eq_true h2]
      go_enter Try.func147, Try.ntmps147
      go_wp2_with fail
      go_returns
      exact ⟨by first | rfl | simp | simp [*], Below.refl _ _⟩
    · rw [decide_eq_false h2]
      have hd2 : decide (99 < x) = false := decide_eq_false h2
      go_enter Try.func147, Try.ntmps147
      go_wp2_with fail
      go_returns
      exact ⟨by first | rfl | simp | simp [*] | (simp; omega), Below.refl _ _⟩

set_option maxHeartbeats 2000000 in
theorem weightsOk_any (n : Int) (A : Option Addr) (cap : Nat) (es : List (Int × Int)) (B : Option Addr) (d : Nat) (ws : List Int) (w : World) (hes : EdgesIn w w.heap.size A es) (hl : es.length ≤ 1048576) (hx : IntsIn w w.heap.size B ws) (hl2 : ws.length ≤ 1048576) :
    Calls Try.prog 135 #[.agg #[.int .i64 n, .slice A es.length cap], .slice B ws.length d] w fun e w' => e = .returned (.bool (weightsB n es ws)) ∧ Below w.heap.size w w' := by
  have D0 := NetWs.start (n := n) (cap := cap) 29 hes hx
  have HN : Hid (∀ u, NetWs w u n A cap es B ws → Calls Try.prog 37 #[.agg #[.int .i64 n, .slice A es.length cap]] u fun e w' => e = .returned (.bool (netOkB n es)) ∧ Below u.heap.size u w') := fun u h => netOk_any n A cap es u h.1.edges hl
  have HC : Hid (∀ u, NetWs w u n A cap es B ws → Calls Try.prog 146 #[.slice B ws.length d, .func (.func 147) #[] #[]] u fun e w' => e = .returned (.bool (ws.any wBad)) ∧ Below u.heap.size u w') := fun u h =>
    containsFunc_anyW 147 #[] wBad B d ws u h.ints (by unfold maxLen; omega) (fun _ _ => rfl) (fun v _ x _ => wBad_call x v)
  have HV : Hid ((!ws.any wBad) = ws.all wOne) := wBad_any ws
  unfold weightsB
  obtain ⟨⟨_, _, c0, c1, s0⟩, -⟩ := id D0
  obtain ⟨m, hm⟩ : ∃ m, ws.length = m := ⟨_, rfl⟩
  rw [hm] at HC hl2 ⊢
  clear hm hx hes
  cases hn : netOkB n es with
  | false =>
    rw [hn] at HN
    rw [Bool.false_and]
    go_enter Try.func135, Try.ntmps135
    go_wp2_with fail
    refine (HN.out _ D0).mono ?_
    rintro e1 w1 ⟨rfl, hb1⟩
    have D1 := D0.on _ hb1
    go_wp2_with fail
    go_returns
    exact ⟨by first | rfl | simp, D1.1.below⟩
  | true =>
    rw [hn] at HN
    rw [Bool.true_and]
    by_cases hml : m = es.length
    · rw [decide_eq_true hml, Bool.true_and, ← HV.out]
      generalize ws.any wBad = v at *
      subst hml
      go_enter Try.func135, Try.ntmps135
      go_wp2_with fail
      refine (HN.out _ D0).mono ?_
      rintro e1 w1 ⟨rfl, hb1⟩
      have D1 := D0.on _ hb1
      clear c0 c1 s0
      obtain ⟨⟨_, _, c0, c1, s0⟩, -⟩ := id D1
      go_wp2_with fail
      refine (HC.out _ D1).mono ?_
      rintro e2 w2 ⟨rfl, hb2⟩
      have D2 := D1.on _ hb2
      go_wp2_with fail
      go_returns
      exact ⟨by first | rfl | simp, D2.1.below⟩
    · rw [decide_eq_false hml, Bool.false_and]
      have hnz : ((m : Int) == (es.length : Int)) = false := beq_eq_false_iff_ne.2 (by omega)
      have hnb : ((m : Int) != (es.length : Int)) = true := by rw [bne, hnz]; rfl
      have hnq : ¬ ((m : Int) = (es.length : Int)) := by omega
      go_enter Try.func135, Try.ntmps135
      go_wp2_with fail
      refine (HN.out _ D0).mono ?_
      rintro e1 w1 ⟨rfl, hb1⟩
      have D1 := D0.on _ hb1
      clear c0 c1 s0
      obtain ⟨⟨_, _, c0, c1, s0⟩, -⟩ := id D1
      go_wp2_with fail
      go_returns
      exact ⟨by first | rfl | simp, D1.1.below⟩

def sumHv (f : Nat → Int) : Nat → Int
  | 0 => 0
  | k + 1 => sumHv f k + f k
theorem sumHv_le {f : Nat → Int} (h : ∀ k, 0 ≤ f k ∧ f k ≤ 99) : ∀ k, 0 ≤ sumHv f k ∧ sumHv f k ≤ 99 * k
  | 0 => by simp [sumHv]
  | k + 1 => by have h1 := sumHv_le h k; have h2 := h k; simp only [sumHv]; omega
theorem sumHv_congr {f g : Nat → Int} : ∀ k, (∀ i, i < k → f i = g i) → sumHv f k = sumHv g k
  | 0, _ => rfl
  | k + 1, h => by simp only [sumHv]; rw [sumHv_congr k fun i hi => h i (by omega), h k (by omega)]
def hvF (ws : List Int) (s k : Nat) : Int := if s.testBit k = true then ws.getD k 0 else 0
def heavyOk (n : Int) (es : List (Int × Int)) (ws : List Int) (s : Int) : Bool := weightsB n es ws && stateOkB n es s
def heavyI (n : Int) (es : List (Int × Int)) (ws : List Int) (s : Int) : Int := if heavyOk n es ws s = true then sumHv (hvF ws s.toNat) ws.length else -1
theorem hvF_le {ws : List Int} (h : ws.all wOne = true) (s k : Nat) : 0 ≤ hvF ws s k ∧ hvF ws s k ≤ 99 := by
  unfold hvF
  split
  · rw [List.getD_eq_getElem?_getD]
    cases hk : ws[k]? with
    | none => simp
    | some x =>
      have := List.all_eq_true.1 h x (List.mem_of_getElem? hk)
      unfold wOne at this
      rw [Bool.and_eq_true, decide_eq_true_eq, decide_eq_true_eq] at this
      simpa using this
  · omega
theorem weightsB_parts {n : Int} {es : List (Int × Int)} {ws : List Int} (h : weightsB n es ws = true) : netOkB n es = true ∧ ws.length = es.length ∧ ws.all wOne = true ∧ ws.length ≤ 9 := by
  unfold weightsB at h
  rw [Bool.and_eq_true, Bool.and_eq_true, decide_eq_true_eq] at h
  have h9 := (netOkB_iff.1 h.1).2.1
  exact ⟨h.1, h.2.1, h.2.2, by omega⟩
theorem sum_wrap {x y z : Int} (h1 : x = y + z) (h2 : 0 ≤ y ∧ y ≤ 891) (h3 : 0 ≤ z ∧ z ≤ 99) : IntKind.i64.wrap (y + z) = x := by rw [h1]; exact IntWalk.i64_in _ (by omega)

set_option maxHeartbeats 1000000 in
theorem sumOverW_any (F : FuncId) (caps : Array Value) (f : Nat → Int) (m : Nat) (u : World) (hm : m ≤ 9) (hf : ∀ k, 0 ≤ f k ∧ f k ≤ 99)
    (hF : ∀ (args : Array Value) (u : World), (callFunc F args).run Try.prog u = .ok (.enter F args) u)
    (HK : ∀ v, Below u.heap.size u v → ∀ k : Nat, k < m → Calls Try.prog F (#[.int .i64 k] ++ caps) v fun e w' => e = .returned (.int .i64 (f k)) ∧ Below v.heap.size v w') :
    Calls Try.prog 84 #[.int .i64 m, .func (.func F) #[] caps] u fun e w' => e = .returned (.int .i64 (sumHv f m)) ∧ Below u.heap.size u w' := by
  have HFB := Lib.hid hf
  have HC := Lib.hid HK
  clear hf HK
  go_enter Try.func84, Try.ntmps84
  go_wp2_with fail
  go_loopw [5, 6, 8] (fun v _ t wr => ∃ k : Nat, k ≤ m ∧ t = .int .i64 (k : Nat) ∧ v = .int .i64 (sumHv f k) ∧ Below u.heap.size u wr) (fun _ _ t _ => m - (intOf t).toNat)
  case atStart => exact ⟨0, by omega, rfl, rfl, Below.refl _ _⟩
  case round =>
    obtain ⟨k, hk, rfl, rfl, hb⟩ := hrel
    by_cases hlt : k < m
    · have z1 := sumHv_le HFB.out k
      have z2 := HFB.out k
      have HS : Hid (sumHv f (k + 1) = sumHv f k + f k) := rfl
      have z3 : 0 ≤ sumHv f k ∧ sumHv f k ≤ 891 := by omega
      have hcall := HC.out _ hb k hlt
      have wz := sum_wrap HS.out z3 z2
      obtain ⟨x, hx⟩ : ∃ x, sumHv f (k + 1) = x := ⟨_, rfl⟩
      rw [hx] at wz
      have HX := Lib.hid hx
      clear z1 hx HS
      generalize sumHv f k = y at *
      generalize f k = z at *
      go_wp2_with fail
      refine hcall.mono ?_
      clear hcall
      rintro e1 w1 ⟨rfl, hb1⟩
      have hb2 := hb.trans (hb1.mono hb.size)
      go_wp2_with fail
      go_roundw
      case rel => exact ⟨k + 1, by omega, by go_num, by rw [HX.out], hb2⟩
      case measure => simp [intOf]; omega
    · obtain rfl : k = m := by omega
      go_wp2_with fail
      go_returns
      exact ⟨rfl, hb⟩

/-- The boxes of HeavyOf: net, weights, state. -/
def HeavyAt (w u : World) (n : Int) (A : Option Addr) (cap : Nat) (es : List (Int × Int)) (B : Option Addr) (m d : Nat) (ws : List Int) (s : Int) : Prop :=
  NetWs w u n A cap es B ws ∧ u.cell? ⟨w.heap.size + 1, 0, none⟩ = some (.slice B m d) ∧ u.cell? ⟨w.heap.size + 2, 0, none⟩ = some (.int .i64 s) ∧ w.heap.size + 3 ≤ u.heap.size
section
variable {w u u' : World} {n : Int} {A B : Option Addr} {cap m d : Nat} {es : List (Int × Int)} {ws : List Int} {s : Int}
theorem HeavyAt.on (h : HeavyAt w u n A cap es B m d ws s) : ∀ u', Below u.heap.size u u' → HeavyAt w u' n A cap es B m d ws s := fun _ hb => by
  have lt := h.2.2.2
  exact ⟨h.1.on _ hb, (hb.cell (p := ⟨w.heap.size + 1, 0, none⟩) (by simp; omega)).trans h.2.1, (hb.cell (p := ⟨w.heap.size + 2, 0, none⟩) (by simp; omega)).trans h.2.2.1, Nat.le_trans lt hb.size⟩
theorem HeavyAt.start (t t1 t2 : TypeId) (hes : EdgesIn w w.heap.size A es) (hx : IntsIn w w.heap.size B ws) :
    HeavyAt w (((w.alloc (.cells #[.int .i64 n, .slice A es.length cap] t)).alloc (.cells #[.slice B m d] t1)).alloc (.cells #[.int .i64 s] t2)) n A cap es B m d ws s := by
  have D := NetWs.start (n := n) (cap := cap) t hes hx
  have h1 := (Below.refl (w.heap.size + 1) (w.alloc (.cells #[.int .i64 n, .slice A es.length cap] t))).alloc (by simp) (.cells #[.slice B m d] t1)
  have h2 := (Below.refl (w.heap.size + 2) ((w.alloc (.cells #[.int .i64 n, .slice A es.length cap] t)).alloc (.cells #[.slice B m d] t1))).alloc (by simp) (.cells #[.int .i64 s] t2)
  refine ⟨(D.on _ (h1.mono (by simp))).on _ (h2.mono (by simp)), ?_, ?_, by simp⟩
  · exact (h2.cell (p := ⟨w.heap.size + 1, 0, none⟩) (by simp)).trans (by rw [World.cell?_alloc_at _ _ _ _ (by simp)]; rfl)
  · rw [World.cell?_alloc_at _ _ _ _ (by simp)]; rfl
end

end Go.Proofs.Ytdacfeebidhgnaa
