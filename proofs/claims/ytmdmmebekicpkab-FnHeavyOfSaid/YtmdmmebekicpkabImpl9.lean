/- Trees of the program: ends joined, edges in a ring, edges where something is true, TreeOk. -/
import Derived.Test.YtmdmmebekicpkabTreeP
import Derived.Test.YtmdmmebekicpkabEdgesAt
import Derived.Test.YtmdmmebekicpkabClass
import Derived.Test.YtmdmmebekicpkabArr
import Derived.Test.YtmdmmebekicpkabBits7
namespace Go.Proofs.Ytmdmmebekicpkab
open Go.RowKit
set_option maxRecDepth 100000

theorem less_testBit {s k : Nat} (hs : s < 512) (hk : k < 9) (hb : s.testBit k = true) (i : Nat) : (s - 2 ^ k).testBit i = (s.testBit i && decide (i ≠ k)) := by
  have h := (sub_bit hs hk (by simpa [bits] using hb)).2 i
  simpa [bits] using h
theorem bit_less {s k : Nat} (hs : s < 512) (_hk : k < 9) (hb : s.testBit k = true) : Go.bits .andNot .i64 (s : Int) ((2 ^ k : Nat) : Int) = ((s - 2 ^ k : Nat) : Int) := by
  have e : s &&& 2 ^ k = 2 ^ k := by
    apply Nat.eq_of_testBit_eq
    intro i
    rw [Nat.testBit_and, Nat.testBit_two_pow]
    by_cases h : k = i
    · subst h; simp [hb]
    · simp [h]
  rw [andNot_small _ (by omega), e]

theorem Way.drew {w u : World} {base g : Nat} {R : Nat → Nat} (h : Way w base g R u) : Way w base g R u.drew := by
  obtain ⟨hb, q, d, hA, hF⟩ := h
  exact ⟨hb.drew, q, d, hA.below ((Below.refl (g + 1) u).drew) (by omega), hF⟩

set_option maxHeartbeats 4000000 in
theorem endsJoined_any (n : Int) (s k : Nat) (A : Option Addr) (cap : Nat) (es : List (Int × Int)) (w : World) (hes : EdgesIn w w.heap.size A es) (hn : netOkB n es = true) (hs : s < 512) (hk : k < es.length) :
    Calls Try.prog 85 #[.agg #[.int .i64 n, .slice A es.length cap], .int .i64 (s : Nat), .int .i64 (k : Nat)] w fun e w' => e = .returned (.bool (metB (endsOf es) es.length (bits (s : Nat)) k)) ∧ Below w.heap.size w w' := by
  obtain ⟨a, b, he, hE, ha1, hb1, ha7, hb7, haN, hbN⟩ := fits_ends hn hk
  have h9 := (netOkB_iff.1 hn).2.1
  have L0 := ArgNet.start (cap := cap) (n := n) 25 hes
  obtain ⟨bl, off, rfl, hbb, g1, g2⟩ := L0.at_ k _ (List.getElem?_eq_getElem hk)
  rw [he] at g1 g2
  have bx := (Below.refl (w.heap.size + 1) (w.alloc (.cells #[.int .i64 n, .slice (some ⟨bl, off, none⟩) es.length cap] 25))).alloc (by simp) (.cells #[.int .i64 a, .int .i64 b] 55)
  have L1 := L0.step bx (by omega)
  obtain ⟨_, _, c0, c1, s1⟩ := id L0
  obtain ⟨_, _, c2, c3, s2⟩ := id L1
  have y0 : ((w.alloc (.cells #[.int .i64 n, .slice (some ⟨bl, off, none⟩) es.length cap] 25)).alloc (.cells #[.int .i64 a, .int .i64 b] 55)).cell? ⟨w.heap.size + 1, 0, none⟩ = some (.int .i64 (a : Nat)) := by rw [World.cell?_alloc_at _ _ _ _ (by simp)]; rfl
  have y1 : ((w.alloc (.cells #[.int .i64 n, .slice (some ⟨bl, off, none⟩) es.length cap] 25)).alloc (.cells #[.int .i64 a, .int .i64 b] 55)).cell? ⟨w.heap.size + 1, 1, none⟩ = some (.int .i64 (b : Nat)) := by rw [World.cell?_alloc_at _ _ _ _ (by simp)]; rfl
  have yl : ((w.alloc (.cells #[.int .i64 n, .slice (some ⟨bl, off, none⟩) es.length cap] 25)).alloc (.cells #[.int .i64 a, .int .i64 b] 55)).heap.size = w.heap.size + 2 := by simp
  have HV : Hid (metB (endsOf es) es.length (bits (s : Nat)) k = decide (rep (endsOf es) (bits (s : Nat)) es.length a = rep (endsOf es) (bits (s : Nat)) es.length b)) := by unfold metB; rw [hE]; rfl
  have HN := Lib.hid hn
  obtain ⟨W, hW⟩ : ∃ W, W = (w.alloc (.cells #[.int .i64 n, .slice (some ⟨bl, off, none⟩) es.length cap] 25)).alloc (.cells #[.int .i64 a, .int .i64 b] 55) := ⟨_, rfl⟩
  clear hE he hes bx hn L0
  go_enter Try.func85, Try.ntmps85
  go_wp2_with fail
  rw [← hW] at L1 c2 c3 s2 y0 y1 yl ⊢
  clear hW
  refine (piecesOf_any _ _ _ _ _ _ L1.edges HN.out (by omega) (by omega)).mono ?_
  rintro e4 w4 ⟨hb4, q, R, d, rfl, F, hR⟩
  have L4 := L1.step hb4 L1.lt
  have HC : Hid (R a = R b ↔ rep (endsOf es) (bits (s : Nat)) es.length a = rep (endsOf es) (bits (s : Nat)) es.length b) := hR.same (rep_ok (endsOf_ok HN.out) _ _ (Nat.le_refl _)) a b
  have W4 : Way (w4.alloc (.cells (arrC q) 99)) w4.heap.size w4.heap.size R (w4.alloc (.cells (arrC q) 99)) := ⟨Below.refl _ _, q, d, Arr.box w4 q (Nat.le_refl _), F⟩
  have B4 := L4.below.alloc (by have := L4.lt; omega) (.cells (arrC q) 99)
  have B5 := (Below.refl w4.heap.size w4).alloc (Nat.le_refl _) (.cells (arrC q) 99)
  have hsz := hb4.size
  have z0 := (B5.cell (p := ⟨w.heap.size + 1, 0, none⟩) (by simp; omega)).trans ((hb4.cell (p := ⟨w.heap.size + 1, 0, none⟩) (by simp; omega)).trans y0)
  have z1 := (B5.cell (p := ⟨w.heap.size + 1, 1, none⟩) (by simp; omega)).trans ((hb4.cell (p := ⟨w.heap.size + 1, 1, none⟩) (by simp; omega)).trans y1)
  have hlt : w.heap.size + 1 < w4.heap.size := by omega
  unfold arrC at W4 B4 z0 z1 ⊢
  obtain ⟨V, hV⟩ : ∃ V, V = w4.alloc (.cells #[.int .i64 (q 0), .int .i64 (q 1), .int .i64 (q 2), .int .i64 (q 3), .int .i64 (q 4), .int .i64 (q 5), .int .i64 (q 6)] 99) := ⟨_, rfl⟩
  clear L1 hb4 c0 c1 c2 c3 s1 s2 y0 y1 B5 yl hsz hR F
  go_wp2_with fail
  rw [← hV] at W4 B4 z0 z1 ⊢
  clear hV L4
  generalize w4.heap.size = g at *
  refine wp_region_class (fun u => Way V g g R u) (by kernel_rfl) (by kernel_rfl) W4.drew ?_
  intro X hX f hf hex
  have k0 : ∀ x, (f x).cell? ⟨w.heap.size + 1, 0, none⟩ = some (.int .i64 (a : Nat)) := fun x => ((hf x).1.cell (by simpa using hlt)).trans z0
  have k1 : ∀ x, (f x).cell? ⟨w.heap.size + 1, 1, none⟩ = some (.int .i64 (b : Nat)) := fun x => ((hf x).1.cell (by simpa using hlt)).trans z1
  have HA : Hid (∀ x, Calls Try.prog 104 #[.pointer (some ⟨g, 0, none⟩), .int .i64 (a : Nat)] (f x) fun e w' => e = .returned (.int .i64 (R a : Nat)) ∧ ∃ y, w' = f y) := fun x => ((hf x).head ha7).mono fun e w' ⟨he, hw⟩ => ⟨he, hex _ hw⟩
  have HB : Hid (∀ x, Calls Try.prog 104 #[.pointer (some ⟨g, 0, none⟩), .int .i64 (b : Nat)] (f x) fun e w' => e = .returned (.int .i64 (R b : Nat)) ∧ ∃ y, w' = f y) := fun x => ((hf x).head hb7).mono fun e w' ⟨he, hw⟩ => ⟨he, hex _ hw⟩
  repeat (go_big_quiet_step (first | (go_at_call 104; first | (with_reducible exact HA.out _) | (with_reducible exact HB.out _))))
  refine wpQuiet_nil ?_
  rintro _ ⟨x, rfl⟩
  have F5 := hf x
  go_wp2_with fail
  go_returns
  refine ⟨retB ?_, B4.trans (F5.1.mono (by omega))⟩
  rw [HV.out, Bool.eq_iff_iff]
  simp [← HC.out]; omega

/-- An edge that is there, and its ends are joined without it, too. -/
def innerB (E : Nat → Nat × Nat) (m : Nat) (T : Nat → Bool) (o : Nat) : Bool := T o && metB E m (lessT T o) o
set_option maxHeartbeats 4000000 in
theorem inRing_any (n : Int) (s k : Nat) (A : Option Addr) (cap : Nat) (es : List (Int × Int)) (w : World) (hes : EdgesIn w w.heap.size A es) (hn : netOkB n es = true) (hs : s < 512) (hk : k < es.length) :
    Calls Try.prog 83 #[.agg #[.int .i64 n, .slice A es.length cap], .int .i64 (s : Nat), .int .i64 (k : Nat)] w fun e w' => e = .returned (.bool (innerB (endsOf es) es.length (bits (s : Nat)) k)) ∧ Below w.heap.size w w' := by
  have h9 := (netOkB_iff.1 hn).2.1
  have L0 := ArgNet.start (cap := cap) (n := n) 25 hes
  have HH : Hid (∀ u, Calls Try.prog 64 #[.int .u64 (s : Nat), .int .i64 (k : Nat)] u fun e w' => e = .returned (.bool (s.testBit k)) ∧ u = w') := fun u => has_any s k u hs (by omega)
  have hu : IntKind.u64.wrap ((s : Nat) : Int) = (s : Nat) := by
    have h1 : (0 : Int) ≤ (s : Nat) := by omega
    have h2 : ((s : Nat) : Int) < 512 := by omega
    show ((s : Nat) : Int) % 18446744073709551616 = _
    omega
  have hkmin : min k 64 = k := by omega
  obtain ⟨P, hP, p1, p2, hp3, hp4⟩ := pow_named12 (show k ≤ 13 by omega)
  cases hb : s.testBit k with
  | false =>
    have HV : Hid (innerB (endsOf es) es.length (bits (s : Nat)) k = false) := by unfold Hid innerB bits; rw [Int.toNat_natCast, hb]; rfl
    rw [hb] at HH
    clear hb hP hn
    go_enter Try.func83, Try.ntmps83
    go_wp2_with fail
    refine wp_region_class (fun u => ArgNet w u n A cap es) (by kernel_rfl) (by kernel_rfl) L0.drew ?_
    clear L0
    intro X hX f hf hex
    repeat (go_big_quiet_step (first | (go_at_call 64; with_reducible exact class_same (HH.out _))))
    refine wpQuiet_nil ?_
    rintro _ ⟨x, rfl⟩
    have F := hf x
    go_wp2_with fail
    go_returns
    exact ⟨retB HV.out.symm, F.below⟩
  | true =>
    have hle : 2 ^ k ≤ s := Nat.le_of_not_lt fun h => by rw [Nat.testBit_lt_two_pow h] at hb; cases hb
    have hbits := bit_less hs (show k < 9 by omega) hb
    have HV : Hid (innerB (endsOf es) es.length (bits (s : Nat)) k = metB (endsOf es) es.length (bits ((s - 2 ^ k : Nat) : Int)) k) := by
      have e : bits ((s - 2 ^ k : Nat) : Int) = lessT (bits (s : Nat)) k := by
        funext i
        unfold bits lessT
        rw [Int.toNat_natCast, Int.toNat_natCast, less_testBit hs (show k < 9 by omega) hb]
      unfold Hid innerB
      rw [e]
      unfold bits
      rw [Int.toNat_natCast, hb, Bool.true_and]
    rw [hb] at HH
    have HE : Hid (∀ u, ArgNet w u n A cap es → Calls Try.prog 85 #[.agg #[.int .i64 n, .slice A es.length cap], .int .i64 ((s - 2 ^ k : Nat) : Nat), .int .i64 (k : Nat)] u fun e w' => e = .returned (.bool (metB (endsOf es) es.length (bits ((s - 2 ^ k : Nat) : Int)) k)) ∧ Below u.heap.size u w') := fun u h =>
      endsJoined_any n (s - 2 ^ k) k A cap es u h.edges hn (by omega) hk
    rw [← HV.out] at HE
    rw [hP] at hbits HE
    generalize innerB (endsOf es) es.length (bits (s : Nat)) k = v at *
    generalize s - P = r at *
    clear hb hP hn HV hle
    go_enter Try.func83, Try.ntmps83
    go_wp2_with fail
    refine wp_region_class (fun u => ArgNet w u n A cap es) (by kernel_rfl) (by kernel_rfl) L0.drew ?_
    clear L0
    intro X hX f hf hex
    have c0 : ∀ x, (f x).cell? ⟨w.heap.size, 0, none⟩ = some (.int .i64 n) := fun x => (hf x).c0
    have c1 : ∀ x, (f x).cell? ⟨w.heap.size, 1, none⟩ = some (.slice A es.length cap) := fun x => (hf x).c1
    repeat (go_big_quiet_step (first | (go_at_call 64; with_reducible exact class_same (HH.out _)) | (go_at_call 85; with_reducible exact class_of hex (HE.out _ (hf _)) (hf _).on)))
    refine wpQuiet_nil ?_
    rintro _ ⟨x, rfl⟩
    have F := hf x
    go_wp2_with fail
    go_returns
    exact ⟨by first | rfl | simp, F.below⟩

set_option maxHeartbeats 2000000 in
theorem edgesWhere_any (F : FuncId) (caps : Array Value) (q : Nat → Bool) (n : Int) (A : Option Addr) (cap : Nat) (es : List (Int × Int)) (w : World) (hes : EdgesIn w w.heap.size A es) (hl : es.length ≤ 9)
    (hF : ∀ (args : Array Value) (u : World), (callFunc F args).run Try.prog u = .ok (.enter F args) u)
    (hq : ∀ u, Below w.heap.size w u → ∀ k : Nat, k < es.length → Calls Try.prog F (#[.int .i64 k] ++ caps) u fun e w' => e = .returned (.bool (q k)) ∧ Below u.heap.size u w') :
    Calls Try.prog 81 #[.agg #[.int .i64 n, .slice A es.length cap], .func (.func F) #[] caps] w fun e w' => e = .returned (.int .i64 (setOf q es.length : Nat)) ∧ Below w.heap.size w w' := by
  have L0 := ArgNet.start (cap := cap) (n := n) 25 hes
  have HQ := Lib.hid hq
  obtain ⟨_, _, c0, c1, s0⟩ := id L0
  clear hq hes
  go_enter Try.func81, Try.ntmps81
  go_wp2_with fail
  go_loopw [5, 6, 10] (fun v _ t wr => ∃ k : Nat, k ≤ es.length ∧ t = .int .i64 (k : Nat) ∧ v = .int .i64 (setOf q k : Nat) ∧ Below w.heap.size w wr) (fun _ _ t _ => es.length - (intOf t).toNat)
  case atStart => exact ⟨0, by omega, rfl, rfl, L0.below⟩
  case round =>
    clear c0 c1 s0
    obtain ⟨k, hk, rfl, rfl, hb⟩ := hrel
    by_cases hlt : k < es.length
    · have hcall := HQ.out _ hb k hlt
      have z1 := setOf_le q (show k ≤ 9 by omega)
      have z2 : setOf q k < 512 := z1
      have hkmin : min k 64 = k := by omega
      have hor := or_bit (setOf q k) k z2 (by omega)
      have HS : Hid (setOf q (k + 1) = if q k = true then setOf q k ||| 2 ^ k else setOf q k) := rfl
      obtain ⟨P, hP, p1, p2, hp3, hp4⟩ := pow_named12 (show k ≤ 13 by omega)
      rw [hp3] at hor
      rw [hP] at hor HS
      clear z1 hP
      generalize setOf q k = y at *
      cases hv : q k with
      | true =>
        rw [hv, if_pos rfl] at HS
        rw [hv] at hcall
        go_wp2_with fail
        refine hcall.mono ?_
        clear hcall
        rintro e1 w1 ⟨rfl, hb1⟩
        have hb2 := hb.trans (hb1.mono hb.size)
        go_wp2_with fail
        go_roundw
        case rel => exact ⟨k + 1, by omega, by go_num, by rw [HS.out], hb2⟩
        case measure => simp [intOf]; omega
      | false =>
        rw [hv, if_neg (by simp)] at HS
        rw [hv] at hcall
        clear hor
        go_wp2_with fail
        refine hcall.mono ?_
        clear hcall
        rintro e1 w1 ⟨rfl, hb1⟩
        have hb2 := hb.trans (hb1.mono hb.size)
        go_wp2_with fail
        go_roundw
        case rel => exact ⟨k + 1, by omega, by go_num, by rw [HS.out], hb2⟩
        case measure => simp [intOf]; omega
    · obtain rfl : k = es.length := by omega
      go_wp2_with fail
      go_returns
      exact ⟨rfl, hb⟩

set_option maxHeartbeats 4000000 in
theorem treeOk_any (n s : Int) (A : Option Addr) (cap : Nat) (es : List (Int × Int)) (w : World) (hes : EdgesIn w w.heap.size A es) (hl : es.length ≤ 1048576) :
    Calls Try.prog 26 #[.agg #[.int .i64 n, .slice A es.length cap], .int .i64 s] w fun e w' => e = .returned (.bool (treeB n es s)) ∧ Below w.heap.size w w' := by
  have L0 := ArgNet.start (cap := cap) (n := n) 25 hes
  rw [← treeB_whole]
  cases hW : wholeB n es s with
  | false =>
    have HH : Hid (∀ u, ArgNet w u n A cap es → Calls Try.prog 30 #[.agg #[.int .i64 n, .slice A es.length cap], .int .i64 s] u fun e w' => e = .returned (.bool false) ∧ Below u.heap.size u w') := fun u h => wholeOk_is n s A cap es u h.edges hl _ hW
    rw [Bool.false_and]
    clear hW hes
    go_enter Try.func26, Try.ntmps26
    go_wp2_with fail
    refine wp_region_class (fun u => ArgNet w u n A cap es) (by kernel_rfl) (by kernel_rfl) L0.drew ?_
    clear L0
    intro X hX f hf hex
    have c0 : ∀ x, (f x).cell? ⟨w.heap.size, 0, none⟩ = some (.int .i64 n) := fun x => (hf x).c0
    have c1 : ∀ x, (f x).cell? ⟨w.heap.size, 1, none⟩ = some (.slice A es.length cap) := fun x => (hf x).c1
    repeat (go_big_quiet_step (first | (go_at_call 30; with_reducible exact class_of hex (HH.out _ (hf _)) (hf _).on)))
    refine wpQuiet_nil ?_
    rintro _ ⟨x, rfl⟩
    have F := hf x
    go_wp2_with fail
    go_returns
    exact ⟨by first | rfl | simp, F.below⟩
  | true =>
    have hs : stateOkB n es s = true := by
      cases h : stateOkB n es s with
      | true => rfl
      | false => rw [whole_not h] at hW; cases hW
    have hn := (netOkB_iff.1 (stateOkB_net hs)).1
    have ht := there_lt hs
    have HH : Hid (∀ u, ArgNet w u n A cap es → Calls Try.prog 30 #[.agg #[.int .i64 n, .slice A es.length cap], .int .i64 s] u fun e w' => e = .returned (.bool true) ∧ Below u.heap.size u w') := fun u h => wholeOk_is n s A cap es u h.edges hl _ hW
    obtain ⟨z, hz⟩ : ∃ z, thereI n es s = z := ⟨_, rfl⟩
    have HT : Hid (∀ u, ArgNet w u n A cap es → Calls Try.prog 69 #[.agg #[.int .i64 n, .slice A es.length cap], .int .i64 s] u fun e w' => e = .returned (.int .i64 z) ∧ Below u.heap.size u w') := fun u h => thereOf_is n s A cap es u h.edges hl _ hz
    have wn : IntKind.i64.wrap (n - 1) = n - 1 := IntWalk.i64_in _ (by omega)
    rw [hz, Bool.true_and]
    rw [hz] at ht
    clear hW hs hz hes
    go_enter Try.func26, Try.ntmps26
    go_wp2_with fail
    refine wp_region_class (fun u => ArgNet w u n A cap es) (by kernel_rfl) (by kernel_rfl) L0.drew ?_
    clear L0
    intro X hX f hf hex
    have c0 : ∀ x, (f x).cell? ⟨w.heap.size, 0, none⟩ = some (.int .i64 n) := fun x => (hf x).c0
    have c1 : ∀ x, (f x).cell? ⟨w.heap.size, 1, none⟩ = some (.slice A es.length cap) := fun x => (hf x).c1
    repeat (go_big_quiet_step (first | (go_at_call 30; with_reducible exact class_of hex (HH.out _ (hf _)) (hf _).on) | (go_at_call 69; with_reducible exact class_of hex (HT.out _ (hf _)) (hf _).on)))
    refine wpQuiet_nil ?_
    rintro _ ⟨x, rfl⟩
    have F := hf x
    go_wp2_with fail
    go_returns
    exact ⟨by first | rfl | simp, F.below⟩

def ringOk (n : Int) (es : List (Int × Int)) (s a : Int) : Bool := treeB n es s && ((decide (0 ≤ a) && decide (a < es.length)) && !bits s a.toNat)
def cutOk (n : Int) (es : List (Int × Int)) (s a : Int) : Bool := treeB n es s && ((decide (0 ≤ a) && decide (a < es.length)) && bits s a.toNat)
def ringI (n : Int) (es : List (Int × Int)) (s a : Int) : Int := if ringOk n es s a = true then (setOf (ringB (endsOf es) es.length (bits s) a.toNat) es.length : Nat) else -1
def cutI (n : Int) (es : List (Int × Int)) (s a : Int) : Int := if cutOk n es s a = true then (setOf (cutB (endsOf es) es.length (bits s) a.toNat) es.length : Nat) else -1

theorem ringOne_any (n : Int) (s k g : Nat) (A : Option Addr) (cap : Nat) (es : List (Int × Int)) (w u : World) (D : ArgNet w u n A cap es) (hc : u.cell? ⟨g, 0, none⟩ = some (.int .i64 (s : Nat))) (hn : netOkB n es = true) (hs : s < 512) (hk : k < es.length) :
    Calls Try.prog 82 #[.int .i64 (k : Nat), .pointer (some ⟨w.heap.size, 0, none⟩), .pointer (some ⟨g, 0, none⟩)] u fun e w' => e = .returned (.bool (innerB (endsOf es) es.length (bits (s : Nat)) k)) ∧ Below u.heap.size u w' := by
  have HC := Lib.hid (inRing_any n s k A cap es u D.edges hn hs hk)
  obtain ⟨_, _, c0, c1, s0⟩ := id D
  generalize innerB (endsOf es) es.length (bits (s : Nat)) k = v at *
  clear hn hs hk
  go_enter Try.func82, Try.ntmps82
  go_wp2_with fail
  refine HC.out.mono ?_
  rintro e1 w1 ⟨rfl, hb⟩
  go_wp2_with fail
  go_returns
  exact ⟨rfl, hb⟩
theorem cutOne_any (n : Int) (s k g : Nat) (A : Option Addr) (cap : Nat) (es : List (Int × Int)) (w u : World) (D : ArgNet w u n A cap es) (hc : u.cell? ⟨g, 0, none⟩ = some (.int .i64 (s : Nat))) (hn : netOkB n es = true) (hs : s < 512) (hk : k < es.length) :
    Calls Try.prog 84 #[.int .i64 (k : Nat), .pointer (some ⟨w.heap.size, 0, none⟩), .pointer (some ⟨g, 0, none⟩)] u fun e w' => e = .returned (.bool (!metB (endsOf es) es.length (bits (s : Nat)) k)) ∧ Below u.heap.size u w' := by
  have HC := Lib.hid (endsJoined_any n s k A cap es u D.edges hn hs hk)
  obtain ⟨_, _, c0, c1, s0⟩ := id D
  generalize metB (endsOf es) es.length (bits (s : Nat)) k = v at *
  clear hn hs hk
  go_enter Try.func84, Try.ntmps84
  go_wp2_with fail
  refine HC.out.mono ?_
  rintro e1 w1 ⟨rfl, hb⟩
  go_wp2_with fail
  go_returns
  exact ⟨rfl, hb⟩

set_option maxHeartbeats 4000000 in
theorem ringWith_any (n s a : Int) (A : Option Addr) (cap : Nat) (es : List (Int × Int)) (w : World) (hes : EdgesIn w w.heap.size A es) (hl : es.length ≤ 1048576) :
    Calls Try.prog 42 #[.agg #[.int .i64 n, .slice A es.length cap], .int .i64 s, .int .i64 a] w fun e w' => e = .returned (.tuple #[.int .i64 (ringI n es s a), .bool (ringOk n es s a)]) ∧ Below w.heap.size w w' := by
  have hmf : ∀ (fn : Fn) (first cap : Array Value) (w : World), (Instr.makeFunc fn first cap).run Try.prog w = .ok (.func fn first cap) w := fun _ _ _ _ => rfl
  have L0 := ArgNet.start (cap := cap) (n := n) 25 hes
  have HA : Hid (∀ u, ArgNet w u n A cap es → Calls Try.prog 80 #[.agg #[.int .i64 n, .slice A es.length cap], .int .i64 a] u fun e w' => e = .returned (.bool (atOkB n es a)) ∧ Below u.heap.size u w') := fun u h => edgeAtOk_any n a A cap es u h.edges hl
  have HT : Hid (∀ u, ArgNet w u n A cap es → Calls Try.prog 26 #[.agg #[.int .i64 n, .slice A es.length cap], .int .i64 s] u fun e w' => e = .returned (.bool (treeB n es s)) ∧ Below u.heap.size u w') := fun u h => treeOk_any n s A cap es u h.edges hl
  obtain ⟨_, _, c0, c1, s0⟩ := id L0
  have hwrong : ringOk n es s a = false → ringI n es s a = -1 := fun h => by unfold ringI; rw [h]; rfl
  cases hat : atOkB n es a with
  | false =>
    have hO : ringOk n es s a = false := by
      cases ht : treeB n es s with
      | false => simp [ringOk, ht]
      | true =>
        have hn := stateOkB_net (treeB_ok ht)
        unfold atOkB at hat
        rw [hn, Bool.true_and] at hat
        unfold ringOk
        rw [ht, Bool.true_and, hat]; rfl
    rw [hwrong hO, hO]
    rw [hat] at HA
    clear hat hO hwrong hes
    go_enter Try.func42, Try.ntmps42
    go_wp2_with fail
    refine (HA.out _ L0).mono ?_
    rintro e1 w1 ⟨rfl, hb1⟩
    have L1 := L0.on _ hb1
    go_wp2_with fail
    go_returns
    exact ⟨by first | rfl | simp, L1.below⟩
  | true =>
    rw [hat] at HA
    have hin : 0 ≤ a ∧ a < es.length ∧ netOkB n es = true := by
      unfold atOkB at hat
      simp only [Bool.and_eq_true, decide_eq_true_eq] at hat
      exact ⟨hat.2.1, hat.2.2, hat.1⟩
    obtain ⟨k, rfl⟩ : ∃ k : Nat, a = k := ⟨a.toNat, by omega⟩
    have hk : k < es.length := by omega
    have h9 := (netOkB_iff.1 hin.2.2).2.1
    cases ht : treeB n es s with
    | false =>
      have hO : ringOk n es s k = false := by simp [ringOk, ht]
      rw [hwrong hO, hO]
      rw [ht] at HT
      clear hat hO hwrong hes ht
      go_enter Try.func42, Try.ntmps42
      go_wp2_with fail
      refine (HA.out _ L0).mono ?_
      rintro e1 w1 ⟨rfl, hb1⟩
      have L1 := L0.on _ hb1
      clear c0 c1 s0
      obtain ⟨_, _, c0, c1, s0⟩ := id L1
      go_wp2_with fail
      refine (HT.out _ L1).mono ?_
      rintro e2 w2 ⟨rfl, hb2⟩
      have L2 := L1.on _ hb2
      go_wp2_with fail
      go_returns
      exact ⟨by first | rfl | simp, L2.below⟩
    | true =>
      rw [ht] at HT
      obtain ⟨m, rfl, hm, hm5⟩ := state_nat (treeB_ok ht)
      have hu : IntKind.u64.wrap ((m : Nat) : Int) = (m : Nat) := by
        have h2 : ((m : Nat) : Int) < 512 := by omega
        show ((m : Nat) : Int) % 18446744073709551616 = _
        omega
      have HH : Hid (∀ u, Calls Try.prog 64 #[.int .u64 (m : Nat), .int .i64 (k : Nat)] u fun e w' => e = .returned (.bool (m.testBit k)) ∧ u = w') := fun u => has_any m k u hm5 (by omega)
      cases hb : m.testBit k with
      | true =>
        have hO : ringOk n es m k = false := by simp [ringOk, bits, hb]
        rw [hwrong hO, hO]
        rw [hb] at HH
        clear hat hO hwrong hes ht
        go_enter Try.func42, Try.ntmps42
        go_wp2_with fail
        refine (HA.out _ L0).mono ?_
        rintro e1 w1 ⟨rfl, hb1⟩
        have L1 := L0.on _ hb1
        clear c0 c1 s0
        obtain ⟨_, _, c0, c1, s0⟩ := id L1
        go_wp2_with fail
        refine (HT.out _ L1).mono ?_
        rintro e2 w2 ⟨rfl, hb2⟩
        have L2 := L1.on _ hb2
        go_wp2_with fail
        refine (HH.out _).mono ?_
        rintro e3 w3 ⟨rfl, rfl⟩
        go_wp2_with fail
        go_returns
        exact ⟨by first | rfl | simp, L2.below⟩
      | false =>
        have hO : ringOk n es m k = true := by
          unfold ringOk
          rw [ht, decide_eq_true (show (0 : Int) ≤ (k : Nat) by omega), decide_eq_true (show ((k : Nat) : Int) < es.length by omega)]
          unfold bits
          rw [Int.toNat_natCast, Int.toNat_natCast, hb]; rfl
        have hbm : bits ((m ||| 2 ^ k : Nat) : Int) = moreT (bits (m : Nat)) k := by
          funext i
          unfold bits moreT
          rw [Int.toNat_natCast, Int.toNat_natCast, Nat.testBit_or, Nat.testBit_two_pow]
          congr 1
          rw [decide_eq_decide]; omega
        have hz : ringI n es m k = (setOf (innerB (endsOf es) es.length (bits ((m ||| 2 ^ k : Nat) : Int))) es.length : Nat) := by
          unfold ringI
          rw [hO, if_pos rfl, hbm]; rfl
        have hm2 : m ||| 2 ^ k < 512 := by
          have h1 : 2 ^ k < 2 ^ 9 := Nat.pow_lt_pow_right (by omega) (by omega)
          exact Nat.or_lt_two_pow (n := 9) (by omega) h1
        have HE : Hid (∀ (u : World) (g : Nat), ArgNet w u n A cap es → u.cell? ⟨g, 0, none⟩ = some (.int .i64 (m ||| 2 ^ k : Nat)) → g < u.heap.size → Calls Try.prog 81 #[.agg #[.int .i64 n, .slice A es.length cap], .func (.func 82) #[] #[.pointer (some ⟨w.heap.size, 0, none⟩), .pointer (some ⟨g, 0, none⟩)]] u fun e w' => e = .returned (.int .i64 (ringI n es m k)) ∧ Below u.heap.size u w') := fun u g h hc hg => by
          rw [hz]
          exact edgesWhere_any 82 #[.pointer (some ⟨w.heap.size, 0, none⟩), .pointer (some ⟨g, 0, none⟩)] _ n A cap es u h.edges h9 (fun _ _ => rfl) (fun v hv o ho => ringOne_any n (m ||| 2 ^ k) o g A cap es w v (h.on _ hv) ((hv.cell hg).trans hc) hin.2.2 hm2 ho)
        have hor := or_bit m k hm5 (by omega)
        have hkmin : min k 64 = k := by omega
        obtain ⟨P, hP, p1, p2, hp3, hp4⟩ := pow_named12 (show k ≤ 13 by omega)
        rw [hb] at HH
        rw [hO]
        rw [hp3, hP] at hor
        rw [hP] at HE
        generalize ringI n es m k = z at *
        generalize m ||| P = r at *
        clear hat hO hwrong hes ht hz hbm hm2 hP hb
        go_enter Try.func42, Try.ntmps42
        go_wp2_with fail
        refine (HA.out _ L0).mono ?_
        rintro e1 w1 ⟨rfl, hb1⟩
        have L1 := L0.on _ hb1
        clear c0 c1 s0
        obtain ⟨_, _, c0, c1, s0⟩ := id L1
        go_wp2_with fail
        refine (HT.out _ L1).mono ?_
        rintro e2 w2 ⟨rfl, hb2⟩
        have L2 := L1.on _ hb2
        clear c0 c1 s0
        go_wp2_with fail
        refine (HH.out _).mono ?_
        rintro e3 w3 ⟨rfl, rfl⟩
        have hx := (Below.refl w2.heap.size w2).alloc (Nat.le_refl _) (.cells #[.int .i64 r] 3)
        have L3 := L2.on _ hx
        have x0 : (w2.alloc (.cells #[.int .i64 r] 3)).cell? ⟨w2.heap.size, 0, none⟩ = some (.int .i64 r) := by rw [World.cell?_alloc_at _ _ _ _ rfl]; rfl
        have xl : w2.heap.size < (w2.alloc (.cells #[.int .i64 r] 3)).heap.size := by simp
        obtain ⟨_, _, c0, c1, s0⟩ := id L3
        go_wp2_with fail
        refine (HE.out _ _ L3 x0 xl).mono ?_
        rintro e4 w4 ⟨rfl, hb4⟩
        have L4 := L3.on _ hb4
        go_wp2_with fail
        go_returns
        exact ⟨by first | rfl | simp, L4.below⟩

set_option maxHeartbeats 4000000 in
theorem cutWith_any (n s a : Int) (A : Option Addr) (cap : Nat) (es : List (Int × Int)) (w : World) (hes : EdgesIn w w.heap.size A es) (hl : es.length ≤ 1048576) :
    Calls Try.prog 44 #[.agg #[.int .i64 n, .slice A es.length cap], .int .i64 s, .int .i64 a] w fun e w' => e = .returned (.tuple #[.int .i64 (cutI n es s a), .bool (cutOk n es s a)]) ∧ Below w.heap.size w w' := by
  have hmf : ∀ (fn : Fn) (first cap : Array Value) (w : World), (Instr.makeFunc fn first cap).run Try.prog w = .ok (.func fn first cap) w := fun _ _ _ _ => rfl
  have L0 := ArgNet.start (cap := cap) (n := n) 25 hes
  have HA : Hid (∀ u, ArgNet w u n A cap es → Calls Try.prog 80 #[.agg #[.int .i64 n, .slice A es.length cap], .int .i64 a] u fun e w' => e = .returned (.bool (atOkB n es a)) ∧ Below u.heap.size u w') := fun u h => edgeAtOk_any n a A cap es u h.edges hl
  have HT : Hid (∀ u, ArgNet w u n A cap es → Calls Try.prog 26 #[.agg #[.int .i64 n, .slice A es.length cap], .int .i64 s] u fun e w' => e = .returned (.bool (treeB n es s)) ∧ Below u.heap.size u w') := fun u h => treeOk_any n s A cap es u h.edges hl
  obtain ⟨_, _, c0, c1, s0⟩ := id L0
  have hwrong : cutOk n es s a = false → cutI n es s a = -1 := fun h => by unfold cutI; rw [h]; rfl
  cases hat : atOkB n es a with
  | false =>
    have hO : cutOk n es s a = false := by
      cases ht : treeB n es s with
      | false => simp [cutOk, ht]
      | true =>
        have hn := stateOkB_net (treeB_ok ht)
        unfold atOkB at hat
        rw [hn, Bool.true_and] at hat
        unfold cutOk
        rw [ht, Bool.true_and, hat]; rfl
    rw [hwrong hO, hO]
    rw [hat] at HA
    clear hat hO hwrong hes
    go_enter Try.func44, Try.ntmps44
    go_wp2_with fail
    refine (HA.out _ L0).mono ?_
    rintro e1 w1 ⟨rfl, hb1⟩
    have L1 := L0.on _ hb1
    go_wp2_with fail
    go_returns
    exact ⟨by first | rfl | simp, L1.below⟩
  | true =>
    rw [hat] at HA
    have hin : 0 ≤ a ∧ a < es.length ∧ netOkB n es = true := by
      unfold atOkB at hat
      simp only [Bool.and_eq_true, decide_eq_true_eq] at hat
      exact ⟨hat.2.1, hat.2.2, hat.1⟩
    obtain ⟨k, rfl⟩ : ∃ k : Nat, a = k := ⟨a.toNat, by omega⟩
    have hk : k < es.length := by omega
    have h9 := (netOkB_iff.1 hin.2.2).2.1
    cases ht : treeB n es s with
    | false =>
      have hO : cutOk n es s k = false := by simp [cutOk, ht]
      rw [hwrong hO, hO]
      rw [ht] at HT
      clear hat hO hwrong hes ht
      go_enter Try.func44, Try.ntmps44
      go_wp2_with fail
      refine (HA.out _ L0).mono ?_
      rintro e1 w1 ⟨rfl, hb1⟩
      have L1 := L0.on _ hb1
      clear c0 c1 s0
      obtain ⟨_, _, c0, c1, s0⟩ := id L1
      go_wp2_with fail
      refine (HT.out _ L1).mono ?_
      rintro e2 w2 ⟨rfl, hb2⟩
      have L2 := L1.on _ hb2
      go_wp2_with fail
      go_returns
      exact ⟨by first | rfl | simp, L2.below⟩
    | true =>
      rw [ht] at HT
      obtain ⟨m, rfl, hm, hm5⟩ := state_nat (treeB_ok ht)
      have hu : IntKind.u64.wrap ((m : Nat) : Int) = (m : Nat) := by
        have h2 : ((m : Nat) : Int) < 512 := by omega
        show ((m : Nat) : Int) % 18446744073709551616 = _
        omega
      have HH : Hid (∀ u, Calls Try.prog 64 #[.int .u64 (m : Nat), .int .i64 (k : Nat)] u fun e w' => e = .returned (.bool (m.testBit k)) ∧ u = w') := fun u => has_any m k u hm5 (by omega)
      cases hb : m.testBit k with
      | false =>
        have hO : cutOk n es m k = false := by simp [cutOk, bits, hb]
        rw [hwrong hO, hO]
        rw [hb] at HH
        clear hat hO hwrong hes ht
        go_enter Try.func44, Try.ntmps44
        go_wp2_with fail
        refine (HA.out _ L0).mono ?_
        rintro e1 w1 ⟨rfl, hb1⟩
        have L1 := L0.on _ hb1
        clear c0 c1 s0
        obtain ⟨_, _, c0, c1, s0⟩ := id L1
        go_wp2_with fail
        refine (HT.out _ L1).mono ?_
        rintro e2 w2 ⟨rfl, hb2⟩
        have L2 := L1.on _ hb2
        go_wp2_with fail
        refine (HH.out _).mono ?_
        rintro e3 w3 ⟨rfl, rfl⟩
        go_wp2_with fail
        go_returns
        exact ⟨by first | rfl | simp, L2.below⟩
      | true =>
        have hO : cutOk n es m k = true := by
          unfold cutOk
          rw [ht, decide_eq_true (show (0 : Int) ≤ (k : Nat) by omega), decide_eq_true (show ((k : Nat) : Int) < es.length by omega)]
          unfold bits
          rw [Int.toNat_natCast, Int.toNat_natCast, hb]; rfl
        have hle : 2 ^ k ≤ m := Nat.le_of_not_lt fun h => by rw [Nat.testBit_lt_two_pow h] at hb; cases hb
        have hbm : bits ((m - 2 ^ k : Nat) : Int) = lessT (bits (m : Nat)) k := by
          funext i
          unfold bits lessT
          rw [Int.toNat_natCast, Int.toNat_natCast, less_testBit hm5 (show k < 9 by omega) hb]
        have hz : cutI n es m k = (setOf (fun o => !metB (endsOf es) es.length (bits ((m - 2 ^ k : Nat) : Int)) o) es.length : Nat) := by
          unfold cutI
          rw [hO, if_pos rfl, hbm]; rfl
        have hm2 : m - 2 ^ k < 512 := Nat.lt_of_le_of_lt (Nat.sub_le _ _) hm5
        have HE : Hid (∀ (u : World) (g : Nat), ArgNet w u n A cap es → u.cell? ⟨g, 0, none⟩ = some (.int .i64 (m - 2 ^ k : Nat)) → g < u.heap.size → Calls Try.prog 81 #[.agg #[.int .i64 n, .slice A es.length cap], .func (.func 84) #[] #[.pointer (some ⟨w.heap.size, 0, none⟩), .pointer (some ⟨g, 0, none⟩)]] u fun e w' => e = .returned (.int .i64 (cutI n es m k)) ∧ Below u.heap.size u w') := fun u g h hc hg => by
          rw [hz]
          exact edgesWhere_any 84 #[.pointer (some ⟨w.heap.size, 0, none⟩), .pointer (some ⟨g, 0, none⟩)] _ n A cap es u h.edges h9 (fun _ _ => rfl) (fun v hv o ho => cutOne_any n (m - 2 ^ k) o g A cap es w v (h.on _ hv) ((hv.cell hg).trans hc) hin.2.2 hm2 ho)
        have hor := bit_less hm5 (show k < 9 by omega) hb
        have hkmin : min k 64 = k := by omega
        obtain ⟨P, hP, p1, p2, hp3, hp4⟩ := pow_named12 (show k ≤ 13 by omega)
        rw [hb] at HH
        rw [hO]
        rw [hP] at hor
        rw [hP] at HE
        generalize cutI n es m k = z at *
        generalize m - P = r at *
        clear hat hO hwrong hes ht hz hbm hm2 hP hb hle
        go_enter Try.func44, Try.ntmps44
        go_wp2_with fail
        refine (HA.out _ L0).mono ?_
        rintro e1 w1 ⟨rfl, hb1⟩
        have L1 := L0.on _ hb1
        clear c0 c1 s0
        obtain ⟨_, _, c0, c1, s0⟩ := id L1
        go_wp2_with fail
        refine (HT.out _ L1).mono ?_
        rintro e2 w2 ⟨rfl, hb2⟩
        have L2 := L1.on _ hb2
        clear c0 c1 s0
        go_wp2_with fail
        refine (HH.out _).mono ?_
        rintro e3 w3 ⟨rfl, rfl⟩
        have hx := (Below.refl w2.heap.size w2).alloc (Nat.le_refl _) (.cells #[.int .i64 r] 3)
        have L3 := L2.on _ hx
        have x0 : (w2.alloc (.cells #[.int .i64 r] 3)).cell? ⟨w2.heap.size, 0, none⟩ = some (.int .i64 r) := by rw [World.cell?_alloc_at _ _ _ _ rfl]; rfl
        have xl : w2.heap.size < (w2.alloc (.cells #[.int .i64 r] 3)).heap.size := by simp
        obtain ⟨_, _, c0, c1, s0⟩ := id L3
        go_wp2_with fail
        refine (HE.out _ _ L3 x0 xl).mono ?_
        rintro e4 w4 ⟨rfl, hb4⟩
        have L4 := L3.on _ hb4
        go_wp2_with fail
        go_returns
        exact ⟨by first | rfl | simp, L4.below⟩

end Go.Proofs.Ytmdmmebekicpkab
