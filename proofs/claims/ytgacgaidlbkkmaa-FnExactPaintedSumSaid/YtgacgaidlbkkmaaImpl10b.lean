/- Chapter 10 of the program: CountPainted, and sums by a function. -/
import Derived.Test.YtgacgaidlbkkmaaImpl10a
import Derived.Test.YtgacgaidlbkkmaaSpec10a
namespace Go.Proofs.Ytgacgaidlbkkmaa
open Go.RowKit
set_option maxRecDepth 100000

theorem IntsIn.at' {u : World} {B0 b o : Nat} {xs : List Int} (h : IntsIn u B0 (some ⟨b, o, none⟩) xs) {k : Nat} {x : Int} (hk : xs[k]? = some x) : u.cell? ⟨b, o + k, none⟩ = some (.int .i64 x) ∧ b < B0 := by
  obtain ⟨b', off, hA, hb, g1⟩ := h k x hk
  injection hA with hA; injection hA with e1 e2; subst e1 e2
  exact ⟨g1, hb⟩
theorem IntsIn.head {u : World} {B0 : Nat} {B : Option Addr} {xs : List Int} (h : IntsIn u B0 B xs) (h0 : 0 < xs.length) : ∃ b o, B = some ⟨b, o, none⟩ := by
  obtain ⟨b', off, hA, _⟩ := h 0 _ (ints_at h0)
  exact ⟨b', off, hA⟩
theorem digL_get {c s m k : Nat} (h : k < m) : (digL c s m)[k]? = some ((s / c ^ k % c : Nat) : Int) := rowL_get _ h

set_option maxHeartbeats 4000000 in
theorem paintedOk_any (m c s d : Nat) (A B : Option Addr) (cap : Nat) (es : List (Int × Int)) (w : World) (hes : EdgesIn w w.heap.size A es) (hn : netOkB m es = true) (hx : IntsIn w w.heap.size B (digL c s m)) :
    Calls Try.prog 47 #[.agg #[.int .i64 (m : Nat), .slice A es.length cap], .slice B m d] w fun e w' => e = .returned (.bool (paintQ es c s)) ∧ Below w.heap.size w w' := by
  have h6 := (netOkB_iff.1 hn).1
  have h9 := (netOkB_iff.1 hn).2.1
  have HF : Hid (∀ e ∈ es, 1 ≤ e.1 ∧ e.1 < e.2 ∧ e.2 ≤ (m : Int)) := (netOkB_iff.1 hn).2.2
  obtain ⟨gb, go, rfl⟩ := hx.head (by rw [digL_length]; omega)
  have D0 := NetWs.start (n := (m : Int)) (cap := cap) 25 hes hx
  have HG : Hid (∀ k, k < m → (digL c s m)[k]? = some ((s / c ^ k % c : Nat) : Int)) := fun k hk => digL_get hk
  obtain ⟨q, hq⟩ : ∃ q, paintQ es c s = q := ⟨_, rfl⟩
  have HQ : Hid ((es.take es.length).all (difB c s) = q) := by rw [Hid, ← hq, List.take_length]; rfl
  have HQ0 : Hid (∀ k, k ≤ es.length → (es.take k).all (difB c s) = false → q = false) := fun k _ h => by
    rw [← hq]
    unfold paintQ
    rw [← Bool.not_eq_true, List.all_eq_true] at h ⊢
    exact fun hh => h fun e he => hh e (List.mem_of_mem_take he)
  have hm6 : m ≤ 6 := by omega
  rw [hq]
  obtain ⟨⟨_, _, c0, c1, s0⟩, -⟩ := id D0
  clear hes hx hn hq h6
  go_enter Try.func47, Try.ntmps47
  go_wp2_with fail
  go_loopw [10] (fun t wr => ∃ k : Nat, k ≤ es.length ∧ t = .int .i64 (k : Nat) ∧ Hid ((es.take k).all (difB c s) = true) ∧ NetWs w wr m A cap es (some ⟨gb, go, none⟩) (digL c s m)) (fun t _ => es.length - (intOf t).toNat)
  case atStart => exact ⟨0, by omega, rfl, by simp [Hid], D0⟩
  case round =>
    clear D0 c0 c1 s0
    obtain ⟨k, hk, rfl, HA, D⟩ := hrel
    obtain ⟨⟨_, _, c0, c1, s0⟩, hints⟩ := id D
    by_cases hlk : k < es.length
    · obtain ⟨⟨a, b⟩, he⟩ : ∃ e, es[k]? = some e := ⟨_, List.getElem?_eq_getElem hlk⟩
      obtain ⟨g, off, rfl, hgb, g1, g2⟩ := D.1.edges k _ he
      have hfit := HF.out _ (List.mem_of_getElem? he)
      have hX := all_take_next (q := difB c s) he
      rw [HA.out, Bool.true_and] at hX
      simp only at g1 g2 hfit
      obtain ⟨a, rfl⟩ : ∃ a' : Nat, a = (a' + 1 : Nat) := ⟨(a - 1).toNat, by omega⟩
      obtain ⟨b, rfl⟩ : ∃ b' : Nat, b = (b' + 1 : Nat) := ⟨(b - 1).toNat, by omega⟩
      have hd : difB c s (((a + 1 : Nat) : Int), ((b + 1 : Nat) : Int)) = !decide (s / c ^ a % c = s / c ^ b % c) := rfl
      rw [hd] at hX
      obtain ⟨y1, hgl⟩ := hints.at' (HG.out a (by omega))
      obtain ⟨y2, -⟩ := hints.at' (HG.out b (by omega))
      have hgl2 : gb < wr.heap.size := by omega
      have hwa : IntKind.i64.wrap ((a : Int) + 1 - 1) = (a : Int) := by rw [IntWalk.i64_in _ (by omega)]; omega
      have hwb : IntKind.i64.wrap ((b : Int) + 1 - 1) = (b : Int) := by rw [IntWalk.i64_in _ (by omega)]; omega
      have ia : (a : Int) < (m : Int) := by omega
      have ib : (b : Int) < (m : Int) := by omega
      generalize s / c ^ a % c = x at *
      generalize s / c ^ b % c = y at *
      clear hd hints he hfit
      by_cases hxy : x = y
      · rw [decide_eq_true hxy] at hX
        have HV := Lib.hid (HQ0.out (k + 1) (by omega) hX)
        subst hxy
        clear hX
        go_wp2_with fail
        go_quiet (fail)
        go_wp2_with fail
        go_returns
        exact ⟨by rw [HV.out]; first | rfl | simp, belowN (D.1.below.alloc D.1.below.size _) _⟩
      · rw [decide_eq_false hxy] at hX
        have HX := Lib.hid hX
        have hxy1 : ¬ (x : Int) = (y : Int) := by omega
        have hxy2 : ((x : Int) == (y : Int)) = false := beq_eq_false_iff_ne.2 hxy1
        clear hX hxy
        go_wp2_with fail
        go_quiet (fail)
        go_wp2_with fail
        go_roundw
        case rel => exact ⟨k + 1, by omega, by go_num, HX.out, D.on _ (belowN ((Below.refl _ _).alloc (Nat.le_refl _) _) _)⟩
        case measure => simp [intOf]; omega
    · obtain rfl : k = es.length := by omega
      have HV : Hid (q = true) := by rw [Hid, ← HQ.out]; exact HA.out
      go_wp2_with fail
      go_returns
      exact ⟨by rw [HV.out]; first | rfl | simp, D.1.below⟩

set_option maxHeartbeats 2000000 in
theorem paintFn_any (m c s d : Nat) (A B : Option Addr) (cap : Nat) (es : List (Int × Int)) (w u : World) (L : ArgNet w u m A cap es) (hn : netOkB m es = true) (hx : IntsIn u u.heap.size B (digL c s m)) :
    Calls Try.prog 46 #[.slice B m d, .pointer (some ⟨w.heap.size, 0, none⟩)] u fun e w' => e = .returned (.bool (paintQ es c s)) ∧ Below u.heap.size u w' := by
  have HC : Hid (Calls Try.prog 47 #[.agg #[.int .i64 (m : Nat), .slice A es.length cap], .slice B m d] u fun e w' => e = .returned (.bool (paintQ es c s)) ∧ Below u.heap.size u w') := paintedOk_any m c s d A B cap es u L.edges hn hx
  obtain ⟨_, _, c0, c1, s0⟩ := id L
  generalize paintQ es c s = v at *
  clear hn hx
  go_enter Try.func46, Try.ntmps46
  go_wp2_with fail
  refine HC.out.mono ?_
  rintro e1 w1 ⟨rfl, hb1⟩
  go_wp2_with fail
  go_returns
  exact ⟨by first | rfl | simp, hb1⟩

set_option maxHeartbeats 4000000 in
theorem countPainted_any (n c : Int) (A : Option Addr) (cap : Nat) (es : List (Int × Int)) (w : World) (hes : EdgesIn w w.heap.size A es) (hl : es.length ≤ 1048576) :
    Calls Try.prog 16 #[.agg #[.int .i64 n, .slice A es.length cap], .int .i64 c] w fun e w' => e = .returned (.int .i64 (paintI n es c)) ∧ Below w.heap.size w w' := by
  have hmf : ∀ (fn : Fn) (first cap : Array Value) (w : World), (Instr.makeFunc fn first cap).run Try.prog w = .ok (.func fn first cap) w := fun _ _ _ _ => rfl
  have L0 := ArgNet.start (cap := cap) (n := n) 25 hes
  have HN : Hid (∀ u, ArgNet w u n A cap es → Calls Try.prog 31 #[.agg #[.int .i64 n, .slice A es.length cap]] u fun e w' => e = .returned (.bool (netOkB n es)) ∧ Below u.heap.size u w') := fun u h => netOk_any n A cap es u h.edges hl
  obtain ⟨_, _, c0, c1, s0⟩ := id L0
  cases hn : netOkB n es with
  | false =>
    have HV : Hid (paintI n es c = -1) := if_neg (by unfold colOkB; rw [hn]; simp)
    rw [HV.out]
    rw [hn] at HN
    clear hes
    go_enter Try.func16, Try.ntmps16
    go_wp2_with fail
    refine (HN.out _ L0).mono ?_
    rintro e1 w1 ⟨rfl, hb1⟩
    have L1 := L0.step hb1 L0.lt
    go_wp2_with fail
    go_returns
    exact ⟨by first | rfl | simp, L1.below⟩
  | true =>
    rw [hn] at HN
    by_cases hlo : c < 0
    · have HV : Hid (paintI n es c = -1) := if_neg (by unfold colOkB; rw [hn]; simp; omega)
      rw [HV.out]
      clear hes
      go_enter Try.func16, Try.ntmps16
      go_wp2_with fail
      refine (HN.out _ L0).mono ?_
      rintro e1 w1 ⟨rfl, hb1⟩
      have L1 := L0.step hb1 L0.lt
      go_wp2_with fail
      go_returns
      exact ⟨by first | rfl | simp, L1.below⟩
    · by_cases hhi : 4 < c
      · have HV : Hid (paintI n es c = -1) := if_neg (by unfold colOkB; rw [hn]; simp; omega)
        rw [HV.out]
        clear hes
        go_enter Try.func16, Try.ntmps16
        go_wp2_with fail
        refine (HN.out _ L0).mono ?_
        rintro e1 w1 ⟨rfl, hb1⟩
        have L1 := L0.step hb1 L0.lt
        go_wp2_with fail
        go_returns
        exact ⟨by first | rfl | simp, L1.below⟩
      · have h6 := (netOkB_iff.1 hn).1
        obtain ⟨m, rfl⟩ : ∃ m : Nat, n = m := ⟨n.toNat, by omega⟩
        obtain ⟨C, rfl⟩ : ∃ C : Nat, c = C := ⟨c.toNat, by omega⟩
        have hC : C ≤ 4 := by omega
        have HV : Hid (paintI m es C = ((cP (paintQ es C) (C ^ m) : Nat) : Int)) := by
          unfold Hid paintI; rw [if_pos (by unfold colOkB; rw [hn]; simp; omega), Int.toNat_natCast, Int.toNat_natCast]
        have HC : Hid (∀ u, ArgNet w u m A cap es → Calls Try.prog 45 #[.int .i64 m, .int .i64 C, .func (.func 46) #[] #[.pointer (some ⟨w.heap.size, 0, none⟩)]] u fun e w' => e = .returned (.int .i64 (paintI m es C)) ∧ Below u.heap.size u w') := fun u h => by
          rw [HV.out]
          exact countWays_any 46 #[.pointer (some ⟨w.heap.size, 0, none⟩)] (paintQ es C) C m (C ^ m) u hC (by omega) rfl (powN_le hC (by omega)) (fun _ _ => rfl) (fun v hv s _ A' d' ow => (paintFn_any m C s d' A A' cap es w v (h.on _ hv) hn ow.ints).mono fun e w' hh => ⟨hh.1, hh.2.mono hv.size⟩)
        generalize paintI (m : Int) es (C : Int) = z at *
        clear hes hn HV h6
        go_enter Try.func16, Try.ntmps16
        go_wp2_with fail
        refine (HN.out _ L0).mono ?_
        rintro e1 w1 ⟨rfl, hb1⟩
        have L1 := L0.step hb1 L0.lt
        clear c0 c1 s0
        obtain ⟨_, _, c0, c1, s0⟩ := id L1
        go_wp2_with fail
        refine (HC.out _ L1).mono ?_
        rintro e2 w2 ⟨rfl, hb2⟩
        have L2 := L1.step hb2 L1.lt
        go_wp2_with fail
        go_returns
        exact ⟨by first | rfl | simp, L2.below⟩
end Go.Proofs.Ytgacgaidlbkkmaa
