/- Chapter 11 of the reference: ByBases. -/
import Derived.Test.YtdacfeebidhgnaaSpec11a
import Derived.Test.YtdacfeebidhgnaaSpec11d
namespace Go.Proofs.Ytdacfeebidhgnaa
open Go.RowKit
set_option maxRecDepth 100000

/-- The sum over a list. -/
def sumLs (g : Nat → Int) (l : List Nat) : Int := sumS (fun k => g (l.getD k 0)) l.length
theorem sumLs_more (g : Nat → Int) (l : List Nat) (a : Nat) : sumLs g (l ++ [a]) = sumLs g l + g a := by
  unfold sumLs
  rw [List.length_append, List.length_singleton]
  simp only [sumS]
  have e : (l ++ [a]).getD l.length 0 = a := by simp [List.getD]
  rw [e]
  congr 1
  refine sumS_congr _ fun k hk => ?_
  simp [List.getD, List.getElem?_append_left hk]
theorem sumLs_filter (g : Nat → Int) (p : Nat → Bool) : ∀ P, sumS (fun s => if p s = true then g s else 0) P = sumLs g ((List.range P).filter p)
  | 0 => rfl
  | P + 1 => by
    rw [List.range_succ, List.filter_append]
    simp only [sumS, sumLs_filter g p P]
    by_cases h : p P = true
    · rw [if_pos h]
      simp only [List.filter_cons, List.filter_nil, h, if_true]
      rw [sumLs_more]
    · rw [if_neg h]
      simp [h]
def baseT (es : List (Int × Int)) (x y : Int) (s : Nat) : Int := x ^ actI es s * y ^ actO es s
theorem bases_val {n : Int} {es : List (Int × Int)} (hn : netOkB n es = true) (x y : Int) : sumLs (baseT es x y) (basesN n es) = valR x y (endsL es) (fun x => x) := by
  rw [← act_val x y _ (endsL es) (fun x => x) rfl]
  unfold actR basesN leastK'
  rw [if_pos hn, ← sumLs_filter, endsL_length]
  refine sumS_congr _ fun s _ => ?_
  have e : (fun i => s.testBit i) = bits ((s : Nat) : Int) := by funext i; unfold bits; rw [Int.toNat_natCast]
  unfold actT
  rw [e]
  rfl
theorem act_le (es : List (Int × Int)) (s : Nat) : actI es s + actO es s ≤ es.length := by
  have := act_sum (endsL es) (fun x => x) (bits ((s : Nat) : Int))
  rwa [endsL_length] at this
theorem baseT_bound {es : List (Int × Int)} (h9 : es.length ≤ 9) {x y : Int} (hx : inFour x = true) (hy : inFour y = true) (s : Nat) : -262144 ≤ baseT es x y s ∧ baseT es x y s ≤ 262144 := by
  obtain ⟨x1, x2⟩ := inFour_iff.1 hx
  obtain ⟨y1, y2⟩ := inFour_iff.1 hy
  have h1 := powI_four x1 x2 (actI es s)
  have h2 := powI_four y1 y2 (actO es s)
  have h3 := abs_mul h1 h2 (Nat.le_refl _) (Nat.le_refl _)
  have h4 := act_le es s
  have h5 : 4 ^ (actI es s + actO es s) ≤ 4 ^ 9 := Nat.pow_le_pow_right (by omega) (by omega)
  rw [Nat.pow_add] at h5
  have e : 4 ^ 9 = 262144 := by decide
  unfold baseT
  omega
theorem baseT_great {es : List (Int × Int)} (h9 : es.length ≤ 9) {x y : Int} (hx : inFour x = true) (hy : inFour y = true) (s : Nat) : -100000000000 ≤ baseT es x y s ∧ baseT es x y s ≤ 100000000000 := by
  have := baseT_bound h9 hx hy s
  omega
theorem bases_at {n : Int} {es : List (Int × Int)} {k : Nat} (hk : k < (basesN n es).length) : leastV n es ((basesN n es).getD k 0 : Nat) = true := by
  refine basesN_mem.1 ?_
  have : (basesN n es).getD k 0 = (basesN n es)[k] := by simp [List.getD, hk]
  rw [this]; exact List.getElem_mem hk
theorem natBases_at {n : Int} {es : List (Int × Int)} {k : Nat} (hk : k < (basesN n es).length) : (natI (basesN n es))[k]? = some (((basesN n es).getD k 0 : Nat) : Int) := by
  refine natI_get ?_
  simp [List.getD, hk]
theorem own_head {X u : World} {xs : List Int} {A : Option Addr} {n c : Nat} (h : OwnI u X.heap.size (.slice A n c) xs) (hn : 0 < xs.length) : ∃ g, A = some ⟨g, 0, none⟩ ∧ X.heap.size ≤ g ∧ g < u.heap.size := by
  rcases h.form with ⟨_, h0⟩ | ⟨g, cap, hv, h1, h2⟩
  · rw [h0] at hn; simp at hn
  · injection hv with hA
    exact ⟨g, hA, h1, h2⟩
theorem ints_cell {u : World} {B0 b o : Nat} {xs : List Int} (h : IntsIn u B0 (some ⟨b, o, none⟩) xs) {k : Nat} {x : Int} (hk : xs[k]? = some x) : u.cell? ⟨b, o + k, none⟩ = some (.int .i64 x) := by
  obtain ⟨b', o', e, -, h2⟩ := h k x hk
  obtain ⟨rfl, rfl⟩ : b = b' ∧ o = o' := by injection e with e; injection e with e1 e2; exact ⟨e1, e2⟩
  exact h2
/-- The net, and a list of integers. -/
def NetInts (w u : World) (n : Int) (A : Option Addr) (cap : Nat) (es : List (Int × Int)) (B : Option Addr) (xs : List Int) : Prop := ArgNet w u n A cap es ∧ IntsIn u u.heap.size B xs
theorem NetInts.on {w u : World} {n : Int} {A : Option Addr} {cap : Nat} {es : List (Int × Int)} {B : Option Addr} {xs : List Int} (h : NetInts w u n A cap es B xs) : ∀ u', Below u.heap.size u u' → NetInts w u' n A cap es B xs := fun _ hb =>
  ⟨h.1.on _ hb, (h.2.below hb (Nat.le_refl _)).more hb.size⟩

set_option maxHeartbeats 8000000 in
theorem specByBases_any (n x y : Int) (A : Option Addr) (cap : Nat) (es : List (Int × Int)) (w : World) (hes : EdgesIn w w.heap.size A es) (hl : es.length ≤ 1048576) :
    Calls Try.prog 30 #[.agg #[.int .i64 n, .slice A es.length cap], .int .i64 x, .int .i64 y] w fun e w' => e = .returned (.tuple #[.int .i64 (valI n es x y), .bool (roadOkB n es x y)]) ∧ Below w.heap.size w w' := by
  have L0 := ArgNet.start (cap := cap) (n := n) 29 hes
  have HN : Hid (∀ u, ArgNet w u n A cap es → Calls Try.prog 52 #[.agg #[.int .i64 n, .slice A es.length cap]] u fun e w' => e = .returned (.bool (netOkB n es)) ∧ Below u.heap.size u w') := fun u h => specNetOk_any n A cap es u h.edges hl
  have HX : Hid (∀ u, Calls Try.prog 79 #[.int .i64 x, .int .i64 (-4), .int .i64 4] u fun e w' => e = .returned (.bool (inFour x)) ∧ u = w') := fun u => l1In_any x (-4) 4 u
  have HY : Hid (∀ u, Calls Try.prog 79 #[.int .i64 y, .int .i64 (-4), .int .i64 4] u fun e w' => e = .returned (.bool (inFour y)) ∧ u = w') := fun u => l1In_any y (-4) 4 u
  obtain ⟨_, _, c0, c1, s0⟩ := id L0
  cases hn : netOkB n es with
  | false =>
    have HO : Hid (roadOkB n es x y = false) := by unfold Hid roadOkB; rw [hn]; rfl
    have HV := Lib.hid (road_not HO.out)
    rw [HV.out, HO.out]
    rw [hn] at HN
    clear hes HX HY hn
    go_enter Try.func30, Try.ntmps30
    go_wp2_with fail
    refine (HN.out _ L0).mono ?_
    rintro e1 w1 ⟨rfl, hb1⟩
    have L1 := L0.step hb1 L0.lt
    go_wp2_with fail
    go_returns
    exact ⟨by first | rfl | simp, L1.below⟩
  | true =>
    rw [hn] at HN
    cases hx : inFour x with
    | false =>
      have HO : Hid (roadOkB n es x y = false) := by unfold Hid roadOkB; rw [hn, hx]; rfl
      have HV := Lib.hid (road_not HO.out)
      rw [HV.out, HO.out]
      rw [hx] at HX
      clear hes HY hn hx
      go_enter Try.func30, Try.ntmps30
      go_wp2_with fail
      refine (HN.out _ L0).mono ?_
      rintro e1 w1 ⟨rfl, hb1⟩
      have L1 := L0.step hb1 L0.lt
      clear c0 c1 s0
      obtain ⟨_, _, c0, c1, s0⟩ := id L1
      go_wp2_with fail
      refine (HX.out _).mono ?_
      rintro e2 w2 ⟨rfl, rfl⟩
      go_wp2_with fail
      go_returns
      exact ⟨by first | rfl | simp, L1.below⟩
    | true =>
      rw [hx] at HX
      cases hy : inFour y with
      | false =>
        have HO : Hid (roadOkB n es x y = false) := by unfold Hid roadOkB; rw [hn, hx, hy]; rfl
        have HV := Lib.hid (road_not HO.out)
        rw [HV.out, HO.out]
        rw [hy] at HY
        clear hes hn hx hy
        go_enter Try.func30, Try.ntmps30
        go_wp2_with fail
        refine (HN.out _ L0).mono ?_
        rintro e1 w1 ⟨rfl, hb1⟩
        have L1 := L0.step hb1 L0.lt
        clear c0 c1 s0
        obtain ⟨_, _, c0, c1, s0⟩ := id L1
        go_wp2_with fail
        refine (HX.out _).mono ?_
        rintro e2 w2 ⟨rfl, rfl⟩
        go_wp2_with fail
        refine (HY.out _).mono ?_
        rintro e3 w3 ⟨rfl, rfl⟩
        go_wp2_with fail
        go_returns
        exact ⟨by first | rfl | simp, L1.below⟩
      | true =>
        have HO : Hid (roadOkB n es x y = true) := by unfold Hid roadOkB; rw [hn, hx, hy]; rfl
        have h9 := (netOkB_iff.1 hn).2.1
        rw [hy] at HY
        obtain ⟨hx1, hx2⟩ := inFour_iff.1 hx
        obtain ⟨hy1, hy2⟩ := inFour_iff.1 hy
        have HV : Hid (valI n es x y = sumLs (baseT es x y) (basesN n es)) := by unfold Hid valI; rw [if_pos HO.out, bases_val hn]
        have HB : Hid (∀ s, -100000000000 ≤ baseT es x y s ∧ baseT es x y s ≤ 100000000000) := fun s => baseT_great h9 hx hy s
        have HBS : Hid (∀ u, ArgNet w u n A cap es → Calls Try.prog 20 #[.agg #[.int .i64 n, .slice A es.length cap]] u (GotInts u (natI (basesN n es)))) := fun u h => specBasesOf_any n A cap es u h.edges hl
        have HAC : Hid (∀ k, k < (basesN n es).length → ∀ u, ArgNet w u n A cap es → Calls Try.prog 26 #[.agg #[.int .i64 n, .slice A es.length cap], .int .i64 ((basesN n es).getD k 0 : Nat)] u fun e w' => e = .returned (.tuple #[.int .i64 (actI es ((basesN n es).getD k 0) : Nat), .int .i64 (actO es ((basesN n es).getD k 0) : Nat), .bool true]) ∧ Below u.heap.size u w') := fun k hk u h => by
          have h1 := bases_at hk
          have := specActiveOf_any n ((basesN n es).getD k 0 : Nat) A cap es u h.edges hl
          unfold actIn actOut at this
          rwa [h1, if_pos rfl, if_pos rfl, Int.toNat_natCast] at this
        have HAT : Hid (∀ k, k < (basesN n es).length → (natI (basesN n es))[k]? = some (((basesN n es).getD k 0 : Nat) : Int)) := fun k hk => natBases_at hk
        have HLE : Hid (∀ s, actI es s + actO es s ≤ 9) := fun s => Nat.le_trans (act_le es s) h9
        have hlen := basesN_len n es
        have HNL := Lib.hid (natI_length (basesN n es))
        rw [HV.out, HO.out]
        clear hes hn hx hy HV HO h9
        obtain ⟨L, hL⟩ : ∃ L, basesN n es = L := ⟨_, rfl⟩
        rw [hL] at HBS HAC HAT hlen HNL ⊢
        clear hL
        have HSF : Hid (sumLs (baseT es x y) L = sumS (fun k => baseT es x y (L.getD k 0)) L.length) := rfl
        rw [HSF.out]
        obtain ⟨xs, hxs⟩ : ∃ xs, natI L = xs := ⟨_, rfl⟩
        rw [hxs] at HBS HAT HNL
        clear hxs HSF
        generalize hm : L.length = m at *
        clear hm
        go_enter Try.func30, Try.ntmps30
        go_wp2_with fail
        refine (HN.out _ L0).mono ?_
        rintro e1 w1 ⟨rfl, hb1⟩
        have L1 := L0.step hb1 L0.lt
        clear c0 c1 s0
        obtain ⟨_, _, c0, c1, s0⟩ := id L1
        go_wp2_with fail
        refine (HX.out _).mono ?_
        rintro e2 w2 ⟨rfl, rfl⟩
        go_wp2_with fail
        refine (HY.out _).mono ?_
        rintro e3 w3 ⟨rfl, rfl⟩
        clear HN HX HY L0 hb1
        go_wp2_with fail
        refine (HBS.out _ L1).mono ?_
        rintro e4 w4 ⟨B, d, rfl, own4, hb4⟩
        have L4 := L1.on _ hb4
        have D4 : NetInts w w4 n A cap es B xs := ⟨L4, own4.ints⟩
        rw [HNL.out]
        have hrow : Hid (0 < m → ∃ g, B = some ⟨g, 0, none⟩) := fun h0 => by
          obtain ⟨g, hg, -, -⟩ := own_head own4 (by rw [HNL.out]; exact h0)
          exact ⟨g, hg⟩
        clear L1 L4 own4 hb4 HBS c0 c1 s0
        go_wp2_with fail
        go_loopw [8, 10] (fun v i wr => ∃ k : Nat, k ≤ m ∧ i = .int .i64 (k : Nat) ∧ v = .int .i64 (sumS (fun k => baseT es x y (L.getD k 0)) k) ∧ NetInts w wr n A cap es B xs) (fun _ i _ => m - (intOf i).toNat)
        case atStart => exact ⟨0, by omega, rfl, rfl, D4⟩
        case round =>
          clear D4
          obtain ⟨k, hk, rfl, rfl, D⟩ := hrel
          by_cases hlt : k < m
          · obtain ⟨gB, rfl⟩ := hrow.out (by omega)
            have hT := HB.out (L.getD k 0)
            have hS := sumT_greatP (f := fun k => baseT es x y (L.getD k 0)) (P := m) (fun k _ => HB.out _) hk hlen
            have hN : Hid (sumS (fun k => baseT es x y (L.getD k 0)) (k + 1) = sumS (fun k => baseT es x y (L.getD k 0)) k + baseT es x y (L.getD k 0)) := rfl
            have hTD : baseT es x y (L.getD k 0) = x ^ actI es (L.getD k 0) * y ^ actO es (L.getD k 0) := rfl
            have hle := HLE.out (L.getD k 0)
            have hac := Lib.hid (HAC.out k hlt)
            have hat := HAT.out k hlt
            have hcell : Hid (∀ u, NetInts w u n A cap es (some ⟨gB, 0, none⟩) xs → u.cell? ⟨gB, 0 + k, none⟩ = some (.int .i64 (L.getD k 0 : Nat))) := fun u h => ints_cell h.2 hat
            have HP1 : Hid (∀ u, Calls Try.prog 80 #[.int .i64 x, .int .i64 (actI es (L.getD k 0) : Nat)] u fun e w' => e = .returned (.int .i64 (x ^ actI es (L.getD k 0))) ∧ u = w') := fun u => specPowF_any x _ (by omega) (by omega) (by omega) u
            have HP2 : Hid (∀ u, Calls Try.prog 80 #[.int .i64 y, .int .i64 (actO es (L.getD k 0) : Nat)] u fun e w' => e = .returned (.int .i64 (y ^ actO es (L.getD k 0))) ∧ u = w') := fun u => specPowF_any y _ (by omega) (by omega) (by omega) u
            obtain ⟨U, hU⟩ : ∃ U, sumS (fun k => baseT es x y (L.getD k 0)) (k + 1) = U := ⟨_, rfl⟩
            rw [hU] at hN
            have HU := Lib.hid hU
            obtain ⟨wz1, wz2⟩ := addT_great hN.out hS hT
            obtain ⟨wm1, wm2⟩ := mulT_wrap hTD hT
            clear hU hN hat
            generalize sumS (fun k => baseT es x y (L.getD k 0)) k = S at *
            generalize baseT es x y (L.getD k 0) = T at *
            generalize x ^ actI es (L.getD k 0) = Y at *
            generalize y ^ actO es (L.getD k 0) = Z at *
            generalize actI es (L.getD k 0) = a at *
            generalize actO es (L.getD k 0) = b at *
            generalize L.getD k 0 = s at *
            clear hTD hT hS
            obtain ⟨⟨_, _, c0, c1, s0⟩, _⟩ := id D
            have hac1 : Hid (∀ u, NetInts w u n A cap es (some ⟨gB, 0, none⟩) xs → _) := fun u h => hac.out u h.1
            go_wp2_with fail
            refine wp_region_class (fun u => NetInts w u n A cap es (some ⟨gB, 0, none⟩) xs) (by kernel_rfl) (by kernel_rfl) (D.on _ ((Below.refl _ _).drew)) ?_
            clear D c0 c1 s0
            intro X hX f hf hex
            have k0 : ∀ x, (f x).cell? ⟨w.heap.size, 0, none⟩ = some (.int .i64 n) := fun x => (hf x).1.c0
            have k1 : ∀ x, (f x).cell? ⟨w.heap.size, 1, none⟩ = some (.slice A es.length cap) := fun x => (hf x).1.c1
            have k2 : ∀ x, (f x).cell? ⟨gB, k, none⟩ = some (.int .i64 (s : Nat)) := fun x => by have := hcell.out _ (hf x); rwa [Nat.zero_add] at this
            repeat (go_big_quiet_step (first | (go_at_call 26; with_reducible exact class_of hex (hac1.out _ (hf _)) (hf _).on)))
            refine wpQuiet_nil ?_
            rintro _ ⟨x9, rfl⟩
            have D5 := hf x9
            generalize f x9 = W9 at *
            clear k0 k1 k2 hf hex
            go_wp2_with fail
            refine (HP1.out _).mono ?_
            rintro e5 w5 ⟨rfl, rfl⟩
            go_wp2_with fail
            refine (HP2.out _).mono ?_
            rintro e6 w6 ⟨rfl, rfl⟩
            go_wp2_with fail
            go_roundw
            case rel => exact ⟨k + 1, by omega, by go_num, by rw [HU.out], D5⟩
            case measure => simp [intOf]; omega
          · obtain rfl : k = m := by omega
            go_wp2_with fail
            go_returns
            exact ⟨by first | rfl | simp, D.1.below⟩
end Go.Proofs.Ytdacfeebidhgnaa
