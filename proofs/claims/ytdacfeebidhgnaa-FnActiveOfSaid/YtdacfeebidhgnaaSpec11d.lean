/- Chapter 11 of the reference: ByStates. -/
import Derived.Test.YtdacfeebidhgnaaBases
import Derived.Test.YtdacfeebidhgnaaSpec10a
import Derived.Test.YtdacfeebidhgnaaEd
import Derived.Test.YtdacfeebidhgnaaSpecCnt
namespace Go.Proofs.Ytdacfeebidhgnaa
open Go.RowKit
set_option maxRecDepth 100000

def inFour (x : Int) : Bool := decide (-4 ≤ x) && decide (x ≤ 4)
theorem inFour_iff {x : Int} : inFour x = true ↔ -4 ≤ x ∧ x ≤ 4 := by simp [inFour]
def roadOkB (n : Int) (es : List (Int × Int)) (x y : Int) : Bool := netOkB n es && (inFour x && inFour y)
/-- The value of a net. -/
def valI (n : Int) (es : List (Int × Int)) (x y : Int) : Int := if roadOkB n es x y = true then valR x y (endsL es) (fun x => x) else 0
def allP (n : Int) (es : List (Int × Int)) : Nat := piecesB n es ((2 ^ es.length - 1 : Nat) : Int)
def valT (n : Int) (es : List (Int × Int)) (x y : Int) (s : Nat) : Int := (x - 1) ^ (piecesB n es (s : Nat) - allP n es) * (y - 1) ^ (pop s + piecesB n es (s : Nat) - n.toNat)
theorem val_states {n : Int} {es : List (Int × Int)} (hn : netOkB n es = true) (x y : Int) : sumS (valT n es x y) (2 ^ es.length) = valR x y (endsL es) (fun x => x) := by
  have h9 := (netOkB_iff.1 hn).2.1
  have hA := rank_pieces (state_of hn (vall_lt es.length))
  rw [rank_all] at hA
  unfold valR
  rw [← states_tut (valLeaf x y (rkA (endsL es) fun x => x)) (endsL es) (fun x => x) 0 0 (by rw [endsL_length]; omega), endsL_length]
  refine sumS_congr _ fun s hs => ?_
  have h1 := rank_pieces (state_of hn hs)
  have e : (fun i => s.testBit i) = bits ((s : Nat) : Int) := by funext i; unfold bits; rw [Int.toNat_natCast]
  have hl := rank_le_all es ((s : Nat) : Int)
  unfold valT valLeaf
  rw [e]
  have h2 : rankL (endsL es) (bits ((s : Nat) : Int)) (fun x => x) = rkS es (s : Nat) := rfl
  have h3 : rkA (endsL es) (fun x => x) = rkN es := rfl
  have h4 : allP n es = piecesB n es ((2 ^ es.length - 1 : Nat) : Int) := rfl
  rw [h2, h3]
  rw [show piecesB n es ((s : Nat) : Int) - allP n es = rkN es - (0 + rkS es (s : Nat)) by omega, show pop s + piecesB n es ((s : Nat) : Int) - n.toNat = 0 + pop s - (0 + rkS es (s : Nat)) by omega]
theorem abs_mul {a b A B : Nat} {x y : Int} (h1 : -(A : Int) ≤ x ∧ x ≤ A) (h2 : -(B : Int) ≤ y ∧ y ≤ B) (ha : A ≤ a) (hb : B ≤ b) : -((a * b : Nat) : Int) ≤ x * y ∧ x * y ≤ ((a * b : Nat) : Int) := by
  have h3 : (x * y).natAbs = x.natAbs * y.natAbs := Int.natAbs_mul x y
  have h4 : x.natAbs * y.natAbs ≤ a * b := Nat.mul_le_mul (by omega) (by omega)
  omega
theorem powS_bound {x : Int} (h1 : -5 ≤ x) (h2 : x ≤ 5) {k m : Nat} (hk : k ≤ m) : -((5 ^ m : Nat) : Int) ≤ x ^ k ∧ x ^ k ≤ ((5 ^ m : Nat) : Int) := by
  have h := powI_five h1 h2 k
  have : 5 ^ k ≤ 5 ^ m := Nat.pow_le_pow_right (by omega) hk
  omega
/-- The exponents. -/
theorem val_exp {n : Int} {es : List (Int × Int)} (hn : netOkB n es = true) {s : Nat} (hs : s < 2 ^ es.length) :
    ∃ a b : Nat, piecesB n es (s : Nat) = allP n es + a ∧ ((pop s + piecesB n es (s : Nat) : Nat) : Int) = n + b ∧ a ≤ 5 ∧ b ≤ 9 ∧ pop s ≤ 9 ∧ piecesB n es (s : Nat) ≤ 6 ∧ (∀ x y, valT n es x y s = (x - 1) ^ a * (y - 1) ^ b) := by
  have hS := state_of hn hs
  have h26 := (netOkB_iff.1 hn).1
  have h9 := (netOkB_iff.1 hn).2.1
  have hA := rank_pieces (state_of hn (vall_lt es.length))
  rw [rank_all] at hA
  have h1 := rank_pieces hS
  have hl := rank_le_all es ((s : Nat) : Int)
  have hp := pieces_pos (state_of hn (vall_lt es.length))
  have hc := pop_there hS
  rw [Int.toNat_natCast] at hc
  have hr : rkS es ((s : Nat) : Int) ≤ card (bits ((s : Nat) : Int)) es.length := by
    unfold rkS; rw [rankL_sel, ← rank_card]; exact rkA_len _ _
  have hcl := card_le (bits ((s : Nat) : Int)) es.length
  have e : allP n es = piecesB n es ((2 ^ es.length - 1 : Nat) : Int) := rfl
  refine ⟨piecesB n es (s : Nat) - allP n es, pop s + piecesB n es (s : Nat) - n.toNat, by omega, by omega, by omega, by omega, by omega, by omega, fun x y => rfl⟩
theorem valT_bound {n : Int} {es : List (Int × Int)} (hn : netOkB n es = true) {x y : Int} (hx : inFour x = true) (hy : inFour y = true) {s : Nat} (hs : s < 2 ^ es.length) : -100000000000 ≤ valT n es x y s ∧ valT n es x y s ≤ 100000000000 := by
  obtain ⟨a, b, -, -, ha, hb, -, -, h⟩ := val_exp hn hs
  have h1 := inFour_iff.1 hx
  have h2 := inFour_iff.1 hy
  rw [h]
  have h3 := powS_bound (x := x - 1) (by omega) (by omega) ha
  have h4 := powS_bound (x := y - 1) (by omega) (by omega) hb
  have h5 := abs_mul h3 h4 (Nat.le_refl _) (Nat.le_refl _)
  have e : 5 ^ 5 * 5 ^ 9 = 6103515625 := by decide
  rw [e] at h5
  omega
theorem sumT_great {f : Nat → Int} {P : Nat} (h : ∀ k, k < P → -100000000000 ≤ f k ∧ f k ≤ 100000000000) : ∀ s : Nat, s ≤ P → -(s * 100000000000) ≤ sumS f s ∧ sumS f s ≤ s * 100000000000
  | 0, _ => by simp [sumS]
  | s + 1, hs => by
    have h1 := sumT_great h s (by omega)
    have h2 := h s (by omega)
    simp only [sumS, Int.natCast_add, Int.natCast_one, Int.add_mul, Int.one_mul]
    omega
theorem sumT_greatP {f : Nat → Int} {P : Nat} (h : ∀ k, k < P → -100000000000 ≤ f k ∧ f k ≤ 100000000000) {s : Nat} (hs : s ≤ P) (hP : P ≤ 512) : -51200000000000 ≤ sumS f s ∧ sumS f s ≤ 51200000000000 := by
  have h1 := sumT_great h s hs
  omega
theorem addT_great {S T U : Int} (hU : U = S + T) (h1 : -51200000000000 ≤ S ∧ S ≤ 51200000000000) (h2 : -100000000000 ≤ T ∧ T ≤ 100000000000) : IntKind.i64.wrap (S + T) = U ∧ wrap64 (S + T) = U := by
  subst hU
  exact ⟨IntWalk.i64_in _ (by omega), by unfold wrap64; omega⟩
theorem mulT_wrap {Y Z T : Int} (h : T = Y * Z) (h2 : -100000000000 ≤ T ∧ T ≤ 100000000000) : IntKind.i64.wrap (Y * Z) = T ∧ wrap64 (Y * Z) = T := by
  rw [← h]
  exact ⟨IntWalk.i64_in _ (by omega), by unfold wrap64; omega⟩
/-- What the roads' functions answer for others. -/
theorem road_not {n : Int} {es : List (Int × Int)} {x y : Int} (h : roadOkB n es x y = false) : valI n es x y = 0 := by unfold valI; rw [h]; rfl

set_option maxHeartbeats 8000000 in
theorem specByStates_any (n x y : Int) (A : Option Addr) (cap : Nat) (es : List (Int × Int)) (w : World) (hes : EdgesIn w w.heap.size A es) (hl : es.length ≤ 1048576) :
    Calls Try.prog 28 #[.agg #[.int .i64 n, .slice A es.length cap], .int .i64 x, .int .i64 y] w fun e w' => e = .returned (.tuple #[.int .i64 (valI n es x y), .bool (roadOkB n es x y)]) ∧ Below w.heap.size w w' := by
  have L0 := ArgNet.start (cap := cap) (n := n) 29 hes
  have HN : Hid (∀ u, ArgNet w u n A cap es → Calls Try.prog 52 #[.agg #[.int .i64 n, .slice A es.length cap]] u fun e w' => e = .returned (.bool (netOkB n es)) ∧ Below u.heap.size u w') := fun u h => specNetOk_any n A cap es u h.edges hl
  have HX : Hid (∀ u, Calls Try.prog 79 #[.int .i64 x, .int .i64 (-4), .int .i64 4] u fun e w' => e = .returned (.bool (inFour x)) ∧ u = w') := fun u => l1In_any x (-4) 4 u
  have HY : Hid (∀ u, Calls Try.prog 79 #[.int .i64 y, .int .i64 (-4), .int .i64 4] u fun e w' => e = .returned (.bool (inFour y)) ∧ u = w') := fun u => l1In_any y (-4) 4 u
  obtain ⟨_, _, c0, c1, s0⟩ := id L0
  cases hn : netOkB n es with
  | false =>
    have HO : Hid (roadOkB n es x y = false) := by unfold Hid roadOkB; rw [hn]; rfl
    have HV := Lib.hid (road_not HO.out)
    rw [HV.out, HO.out]
    rw [hn] at HN
    clear hes HX HY hn
    go_enter Try.func28, Try.ntmps28
    go_wp2_with fail
    refine (HN.out _ L0).mono ?_
    rintro e1 w1 ⟨rfl, hb1⟩
    have L1 := L0.step hb1 L0.lt
    go_wp2_with fail
    go_returns
    exact ⟨by first | rfl | simp, L1.below⟩
  | true =>
    rw [hn] at HN
    cases hx : inFour x with
    | false =>
      have HO : Hid (roadOkB n es x y = false) := by unfold Hid roadOkB; rw [hn, hx]; rfl
      have HV := Lib.hid (road_not HO.out)
      rw [HV.out, HO.out]
      rw [hx] at HX
      clear hes HY hn hx
      go_enter Try.func28, Try.ntmps28
      go_wp2_with fail
      refine (HN.out _ L0).mono ?_
      rintro e1 w1 ⟨rfl, hb1⟩
      have L1 := L0.step hb1 L0.lt
      clear c0 c1 s0
      obtain ⟨_, _, c0, c1, s0⟩ := id L1
      go_wp2_with fail
      refine (HX.out _).mono ?_
      rintro e2 w2 ⟨rfl, rfl⟩
      go_wp2_with fail
      go_returns
      exact ⟨by first | rfl | simp, L1.below⟩
    | true =>
      rw [hx] at HX
      cases hy : inFour y with
      | false =>
        have HO : Hid (roadOkB n es x y = false) := by unfold Hid roadOkB; rw [hn, hx, hy]; rfl
        have HV := Lib.hid (road_not HO.out)
        rw [HV.out, HO.out]
        rw [hy] at HY
        clear hes hn hx hy
        go_enter Try.func28, Try.ntmps28
        go_wp2_with fail
        refine (HN.out _ L0).mono ?_
        rintro e1 w1 ⟨rfl, hb1⟩
        have L1 := L0.step hb1 L0.lt
        clear c0 c1 s0
        obtain ⟨_, _, c0, c1, s0⟩ := id L1
        go_wp2_with fail
        refine (HX.out _).mono ?_
        rintro e2 w2 ⟨rfl, rfl⟩
        go_wp2_with fail
        refine (HY.out _).mono ?_
        rintro e3 w3 ⟨rfl, rfl⟩
        go_wp2_with fail
        go_returns
        exact ⟨by first | rfl | simp, L1.below⟩
      | true =>
        have HO : Hid (roadOkB n es x y = true) := by unfold Hid roadOkB; rw [hn, hx, hy]; rfl
        have h9 := (netOkB_iff.1 hn).2.1
        have hn26 := (netOkB_iff.1 hn).1
        rw [hy] at HY
        obtain ⟨hx1, hx2⟩ := inFour_iff.1 hx
        obtain ⟨hy1, hy2⟩ := inFour_iff.1 hy
        have HST : Hid (sumS (valT n es x y) (2 ^ es.length) = valR x y (endsL es) fun x => x) := val_states hn x y
        have HB : Hid (∀ s, s < 2 ^ es.length → -100000000000 ≤ valT n es x y s ∧ valT n es x y s ≤ 100000000000) := fun s hs => valT_bound hn hx hy hs
        have HE : Hid (∀ s, s < 2 ^ es.length → _) := fun s hs => val_exp (n := n) (es := es) hn (s := s) hs
        have HPC : Hid (∀ (s : Nat) (u : World), s < 2 ^ es.length → ArgNet w u n A cap es → Calls Try.prog 66 #[.agg #[.int .i64 n, .slice A es.length cap], .int .i64 s] u fun e w' => e = .returned (.int .i64 (piecesB n es s : Nat)) ∧ Below u.heap.size u w') := fun s u hs h => l2Pieces_any _ _ _ _ _ _ h.edges (state_of hn hs)
        have HA : Hid (∀ u, ArgNet w u n A cap es → Calls Try.prog 66 #[.agg #[.int .i64 n, .slice A es.length cap], .int .i64 (2 ^ es.length - 1 : Nat)] u fun e w' => e = .returned (.int .i64 (allP n es : Nat)) ∧ Below u.heap.size u w') := fun u h => l2Pieces_any _ _ _ _ _ _ h.edges (state_of hn (vall_lt _))
        have HV : Hid (valI n es x y = valR x y (endsL es) fun x => x) := by unfold Hid valI; rw [if_pos HO.out]
        obtain ⟨P, hP, p1, p2, hp3, hp4⟩ := pow_named h9
        rw [hP] at HST HB HE HPC HA
        obtain ⟨Q, hQ⟩ : ∃ Q, P - 1 = Q := ⟨_, rfl⟩
        have wq : IntKind.i64.wrap ((P : Int) - 1) = (Q : Int) := by rw [IntWalk.i64_in _ (by omega)]; omega
        rw [hQ] at HA
        have hlmin : min es.length 64 = es.length := by omega
        have wx : IntKind.i64.wrap (x - 1) = x - 1 := IntWalk.i64_in _ (by omega)
        have wy : IntKind.i64.wrap (y - 1) = y - 1 := IntWalk.i64_in _ (by omega)
        rw [HV.out, HO.out, ← HST.out]
        clear hes hn hx hy hP hQ HST HV HO
        obtain ⟨M, hM⟩ : ∃ M, allP n es = M := ⟨_, rfl⟩
        rw [hM] at HA HE
        clear hM
        go_enter Try.func28, Try.ntmps28
        go_wp2_with fail
        refine (HN.out _ L0).mono ?_
        rintro e1 w1 ⟨rfl, hb1⟩
        have L1 := L0.step hb1 L0.lt
        clear c0 c1 s0
        obtain ⟨_, _, c0, c1, s0⟩ := id L1
        go_wp2_with fail
        refine (HX.out _).mono ?_
        rintro e2 w2 ⟨rfl, rfl⟩
        go_wp2_with fail
        refine (HY.out _).mono ?_
        rintro e3 w3 ⟨rfl, rfl⟩
        clear HN HX HY c0 c1 s0 L0 hb1
        go_wp2_with fail
        refine wp_region_class (fun u => ArgNet w u n A cap es) (by kernel_rfl) (by kernel_rfl) L1.drew ?_
        clear L1
        intro X hX f hf hex
        have k0 : ∀ x, (f x).cell? ⟨w.heap.size, 0, none⟩ = some (.int .i64 n) := fun x => (hf x).c0
        have k1 : ∀ x, (f x).cell? ⟨w.heap.size, 1, none⟩ = some (.slice A es.length cap) := fun x => (hf x).c1
        repeat (go_big_quiet_step (first | (go_at_call 66; with_reducible exact class_of hex (HA.out _ (hf _)) (hf _).on)))
        refine wpQuiet_nil ?_
        rintro _ ⟨x9, rfl⟩
        have L1 := hf x9
        generalize f x9 = W0 at *
        clear k0 k1 hf hex HA wq
        go_wp2_with fail
        go_loopw [9, 10] (fun v i wr => ∃ s : Nat, s ≤ P ∧ i = .int .i64 (s : Nat) ∧ v = .int .i64 (sumS (valT n es x y) s) ∧ ArgNet w wr n A cap es) (fun _ i _ => P - (intOf i).toNat)
        case atStart => exact ⟨0, by omega, rfl, rfl, L1⟩
        case round =>
          clear L1
          obtain ⟨s, hs, rfl, rfl, L1⟩ := hrel
          obtain ⟨_, _, c0, c1, s0⟩ := id L1
          by_cases hlt : s < P
          · obtain ⟨a, b, e1, e2, ha, hb, ht9, hp6, hT0⟩ := HE.out s hlt
            have hT := HB.out s hlt
            have hS := sumT_greatP HB.out hs p2
            have hN : Hid (sumS (valT n es x y) (s + 1) = sumS (valT n es x y) s + valT n es x y s) := rfl
            have hTD := hT0 x y
            have hpc := Lib.hid (HPC.out s wr hlt L1)
            have hM1 : Hid (∀ u, Calls Try.prog 67 #[.int .i64 s] u fun e w' => e = .returned (.int .i64 (pop s)) ∧ u = w') := fun u => l1Many_any s u (by omega)
            have HP1 : Hid (∀ u, Calls Try.prog 80 #[.int .i64 (x - 1), .int .i64 (a : Nat)] u fun e w' => e = .returned (.int .i64 ((x - 1) ^ a)) ∧ u = w') := fun u => specPowF_any (x - 1) a (by omega) (by omega) (by omega) u
            have HP2 : Hid (∀ u, Calls Try.prog 80 #[.int .i64 (y - 1), .int .i64 (b : Nat)] u fun e w' => e = .returned (.int .i64 ((y - 1) ^ b)) ∧ u = w') := fun u => specPowF_any (y - 1) b (by omega) (by omega) (by omega) u
            obtain ⟨U, hU⟩ : ∃ U, sumS (valT n es x y) (s + 1) = U := ⟨_, rfl⟩
            rw [hU] at hN
            have HU := Lib.hid hU
            obtain ⟨wz1, wz2⟩ := addT_great hN.out hS hT
            obtain ⟨wm1, wm2⟩ := mulT_wrap hTD hT
            clear hU hN hT0
            generalize sumS (valT n es x y) s = S at *
            generalize valT n es x y s = T at *
            generalize (x - 1) ^ a = Y at *
            generalize (y - 1) ^ b = Z at *
            generalize piecesB n es ((s : Nat) : Int) = pb at *
            generalize pop s = t at *
            clear hTD
            have wa : IntKind.i64.wrap ((pb : Int) - (M : Int)) = (a : Int) := by rw [IntWalk.i64_in _ (by omega)]; omega
            have wb : IntKind.i64.wrap ((t : Int) - n) = (t : Int) - n := IntWalk.i64_in _ (by omega)
            have wc : IntKind.i64.wrap ((t : Int) - n + (pb : Int)) = (b : Int) := by rw [IntWalk.i64_in _ (by omega)]; omega
            clear hT hS e1 e2
            go_wp2_with fail
            refine hpc.out.mono ?_
            rintro e3 w3 ⟨rfl, hb3⟩
            have L3 := L1.step hb3 L1.lt
            clear hpc c0 c1 s0 hp3 hp4
            go_wp2_with fail
            refine wp_region_class (fun u => ArgNet w u n A cap es) (by kernel_rfl) (by kernel_rfl) L3.drew ?_
            clear L3 L1 hb3
            intro X2 hX2 f hf hex
            have k0 : ∀ x, (f x).cell? ⟨w.heap.size, 0, none⟩ = some (.int .i64 n) := fun x => (hf x).c0
            have k1 : ∀ x, (f x).cell? ⟨w.heap.size, 1, none⟩ = some (.slice A es.length cap) := fun x => (hf x).c1
            repeat (go_big_quiet_step (first | (go_at_call 67; with_reducible exact class_same (hM1.out _)) | (go_at_call 80; with_reducible exact class_same (HP1.out _)) | (go_at_call 80; with_reducible exact class_same (HP2.out _))))
            refine wpQuiet_nil ?_
            rintro _ ⟨x9, rfl⟩
            have L4 := hf x9
            generalize f x9 = W9 at *
            clear k0 k1 hf hex
            go_wp2_with fail
            go_roundw
            case rel => exact ⟨s + 1, by omega, by go_num, by rw [HU.out], L4⟩
            case measure => simp [intOf]; omega
          · obtain rfl : s = P := by omega
            go_wp2_with fail
            go_returns
            exact ⟨by first | rfl | simp, L1.below⟩
end Go.Proofs.Ytdacfeebidhgnaa
