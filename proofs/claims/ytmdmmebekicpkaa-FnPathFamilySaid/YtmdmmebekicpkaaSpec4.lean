/- PathsOf and CutsOf of the reference. -/
import Derived.Test.YtmdmmebekicpkaaImpl4
namespace Go.Proofs.Ytmdmmebekicpkaa
open Go.RowKit
set_option maxRecDepth 100000

theorem l4Ends_any (n a b : Int) (A : Option Addr) (cap : Nat) (es : List (Int × Int)) (w : World) (hes : EdgesIn w w.heap.size A es) (hl : es.length ≤ 1048576) :
    Calls Try.prog 84 #[.agg #[.int .i64 n, .slice A es.length cap], .int .i64 a, .int .i64 b] w fun e w' => e = .returned (.bool (joinOkB n es a b)) ∧ Below w.heap.size w w' := by
  have L0 := ArgNet.start (cap := cap) (n := n) 53 hes
  cases hn : netOkB n es with
  | false =>
    have HN := Lib.hid hn
    have HJ : Hid (joinOkB n es a b = false) := by simp [Hid, joinOkB, hn]
    clear hn
    go_enter Try.func84, Try.ntmps84
    go_wp2_with fail
    refine (specNetOk_any _ _ _ _ _ L0.edges hl).mono ?_
    rintro e1 w1 ⟨rfl, hb1⟩
    rw [HN.out]
    have L1 := L0.step hb1 L0.lt
    go_wp2_with fail
    go_returns
    exact ⟨retB HJ.out.symm, L1.below⟩
  | true =>
    have HN := Lib.hid hn
    by_cases ha : 1 ≤ a ∧ a ≤ n
    · have HA : Hid ((decide (1 ≤ a) && decide (a ≤ n)) = true) := by simp [Hid, ha.1, ha.2]
      by_cases hb : 1 ≤ b ∧ b ≤ n
      · have HB : Hid ((decide (1 ≤ b) && decide (b ≤ n)) = true) := by simp [Hid, hb.1, hb.2]
        have HJ : Hid (joinOkB n es a b = !decide (a = b)) := by simp [Hid, joinOkB, hn, ha, hb]
        clear hn ha hb
        by_cases hab : a = b
        · subst hab
          go_enter Try.func84, Try.ntmps84
          go_wp2_with fail
          refine (specNetOk_any _ _ _ _ _ L0.edges hl).mono ?_
          rintro e1 w1 ⟨rfl, hb1⟩
          rw [HN.out]
          have L1 := L0.step hb1 L0.lt
          clear hb1 L0
          obtain ⟨_, _, c0, c1, s1⟩ := id L1
          go_wp2_with fail
          refine (l1In_any _ _ _ _).mono ?_
          rintro e2 w2 ⟨rfl, rfl⟩
          rw [HA.out]
          go_wp2_with fail
          refine (l1In_any _ _ _ _).mono ?_
          rintro e3 w3 ⟨rfl, rfl⟩
          rw [HA.out]
          go_wp2_with fail
          go_returns
          exact ⟨retB (by rw [HJ.out]; simp), L1.below⟩
        · have HAB := Lib.hid hab
          have hne : (a != b) = true := by simpa using hab
          clear hab
          go_enter Try.func84, Try.ntmps84
          go_wp2_with fail
          refine (specNetOk_any _ _ _ _ _ L0.edges hl).mono ?_
          rintro e1 w1 ⟨rfl, hb1⟩
          rw [HN.out]
          have L1 := L0.step hb1 L0.lt
          clear hb1 L0
          obtain ⟨_, _, c0, c1, s1⟩ := id L1
          go_wp2_with fail
          refine (l1In_any _ _ _ _).mono ?_
          rintro e2 w2 ⟨rfl, rfl⟩
          rw [HA.out]
          go_wp2_with fail
          refine (l1In_any _ _ _ _).mono ?_
          rintro e3 w3 ⟨rfl, rfl⟩
          rw [HB.out]
          go_wp2_with fail
          go_returns
          exact ⟨retB (by rw [HJ.out]; simp [HAB.out]), L1.below⟩
      · have HB : Hid ((decide (1 ≤ b) && decide (b ≤ n)) = false) := by simp [Hid]; omega
        have HJ : Hid (joinOkB n es a b = false) := by simp [Hid, joinOkB]; omega
        clear hn ha hb
        go_enter Try.func84, Try.ntmps84
        go_wp2_with fail
        refine (specNetOk_any _ _ _ _ _ L0.edges hl).mono ?_
        rintro e1 w1 ⟨rfl, hb1⟩
        rw [HN.out]
        have L1 := L0.step hb1 L0.lt
        clear hb1 L0
        obtain ⟨_, _, c0, c1, s1⟩ := id L1
        go_wp2_with fail
        refine (l1In_any _ _ _ _).mono ?_
        rintro e2 w2 ⟨rfl, rfl⟩
        rw [HA.out]
        go_wp2_with fail
        refine (l1In_any _ _ _ _).mono ?_
        rintro e3 w3 ⟨rfl, rfl⟩
        rw [HB.out]
        go_wp2_with fail
        go_returns
        exact ⟨retB HJ.out.symm, L1.below⟩
    · have HA : Hid ((decide (1 ≤ a) && decide (a ≤ n)) = false) := by simp [Hid]; omega
      have HJ : Hid (joinOkB n es a b = false) := by simp [Hid, joinOkB]; omega
      clear hn ha
      go_enter Try.func84, Try.ntmps84
      go_wp2_with fail
      refine (specNetOk_any _ _ _ _ _ L0.edges hl).mono ?_
      rintro e1 w1 ⟨rfl, hb1⟩
      rw [HN.out]
      have L1 := L0.step hb1 L0.lt
      clear hb1 L0
      obtain ⟨_, _, c0, c1, s1⟩ := id L1
      go_wp2_with fail
      refine (l1In_any _ _ _ _).mono ?_
      rintro e2 w2 ⟨rfl, rfl⟩
      rw [HA.out]
      go_wp2_with fail
      go_returns
      exact ⟨retB HJ.out.symm, L1.below⟩

/-- The class of worlds in which the reference's loops run. -/
structure OutNet (w u : World) (n : Int) (A : Option Addr) (cap : Nat) (es : List (Int × Int)) (v : Value) (xs : List Int) : Prop where
  net : ArgNet w u n A cap es
  own : OwnI u (w.heap.size + 1) v xs
theorem OutNet.next {w u u' : World} {n : Int} {A : Option Addr} {cap : Nat} {es : List (Int × Int)} {v : Value} {xs : List Int} (h : OutNet w u n A cap es v xs) (hb : Below u.heap.size u u') : OutNet w u' n A cap es v xs :=
  ⟨h.net.step hb h.net.lt, h.own.below hb h.own.lt⟩
theorem OutNet.drew {w u : World} {n : Int} {A : Option Addr} {cap : Nat} {es : List (Int × Int)} {v : Value} {xs : List Int} (h : OutNet w u n A cap es v xs) : OutNet w u.drew n A cap es v xs :=
  ⟨h.net.drew, h.own.drew⟩

set_option maxHeartbeats 4000000 in
theorem specPathsOf_any (n a b : Int) (A : Option Addr) (cap : Nat) (es : List (Int × Int)) (w : World) (hes : EdgesIn w w.heap.size A es) (hl : es.length ≤ 1048576) :
    Calls Try.prog 85 #[.agg #[.int .i64 n, .slice A es.length cap], .int .i64 a, .int .i64 b] w (GotInts w (natI (pathsN n es a b))) := by
  have L0 := ArgNet.start (cap := cap) (n := n) 53 hes
  have hbx := (Below.refl (w.heap.size + 1) (w.alloc (.cells #[.int .i64 n, .slice A es.length cap] 53))).alloc (by simp) (.cells #[] 3)
  have L1 := L0.step hbx (by omega)
  have own1 : OwnI ((w.alloc (.cells #[.int .i64 n, .slice A es.length cap] 53)).alloc (.cells #[] 3)) (w.heap.size + 1) (.slice (some ⟨w.heap.size + 1, 0, none⟩) 0 0) [] := by
    have := OwnI.empty (w.alloc (.cells #[.int .i64 n, .slice A es.length cap] 53)) (base := w.heap.size + 1) (by simp)
    simpa using this
  have ON : OutNet w _ n A cap es _ [] := ⟨L1, own1⟩
  clear hbx L0 own1 L1
  by_cases hok : joinOkB n es a b = true
  · have HOK := Lib.hid hok
    have h9 := joinOk_nine hok
    have HP : Hid (pathsN n es a b = leastL es.length (joinS es a.toNat b.toNat)) := if_pos hok
    have HJ : Hid (∀ u, EdgesIn u u.heap.size A es → ∀ t : Nat, t < 2 ^ es.length → Calls Try.prog 120 #[.agg #[.int .i64 n, .slice A es.length cap], .int .i64 t, .int .i64 a, .int .i64 b] u fun e w' => e = .returned (.bool (joinS es a.toNat b.toNat t)) ∧ Below u.heap.size u w') :=
      fun u hu t ht => by rw [← joined_state hok ht]; exact specJoinedOk_any _ _ _ _ _ _ _ _ hu hl
    clear hok
    obtain ⟨J, hJ⟩ : ∃ J, joinS es a.toNat b.toNat = J := ⟨_, rfl⟩
    rw [hJ] at HP HJ
    clear hJ
    obtain ⟨P, hP, p1, p2, hp3, hp4⟩ := pow_named h9
    have HA : Hid (leastK es.length J P = leastL es.length J) := by rw [Hid, ← hP]; rfl
    rw [hP] at HJ
    have HPw := Lib.hid hP
    clear hP
    have c0 := ON.net.c0
    have c1 := ON.net.c1
    go_enter Try.func85, Try.ntmps85
    go_wp2_with fail
    refine (l4Ends_any _ _ _ _ _ _ _ ON.net.edges hl).mono ?_
    rintro e1 w1 ⟨rfl, hb1⟩
    rw [HOK.out]
    have ON1 := ON.next hb1
    clear ON hb1 c0 c1
    have c0 := ON1.net.c0
    have c1 := ON1.net.c1
    go_wp2_with fail
    go_loopw [7, 8] (fun v t wr => ∃ s : Nat, s ≤ P ∧ t = .int .i64 (s : Nat) ∧ OutNet w wr n A cap es v (natI (leastK es.length J s))) (fun _ t _ => P - (intOf t).toNat)
    case atStart => exact ⟨0, by omega, rfl, ON1⟩
    case round =>
      clear ON1 c0 c1
      obtain ⟨s, hs, rfl, ON⟩ := hrel
      have c0 := ON.net.c0
      have c1 := ON.net.c1
      by_cases hlt : s < P
      · have hcall := HJ.out _ ON.net.edges s hlt
        go_wp2_with fail
        refine hcall.mono ?_
        clear hcall
        rintro e2 w2 ⟨rfl, hb2⟩
        have ON2 := ON.next hb2
        clear ON hb2 c0 c1
        have c0 := ON2.net.c0
        have c1 := ON2.net.c1
        go_wp2_with fail
        clear c0 c1
        obtain ⟨wo, rfl⟩ : ∃ wo : World, wo = wr := ⟨_, rfl⟩
        go_loopw [9, 10] (fun v t wr => ∃ k : Nat, k ≤ es.length ∧ v = .bool (leastTo J s k) ∧ t = .int .i64 (k : Nat) ∧ OutNet w wr n A cap es u7 (natI (leastK es.length J s))) (fun _ t _ => es.length - (intOf t).toNat)
        case atStart => exact ⟨0, by omega, rfl, rfl, ON2⟩
        case round =>
          clear ON2
          obtain ⟨k, hk, rfl, rfl, ON⟩ := hrel
          have c0 := ON.net.c0
          have c1 := ON.net.c1
          have hss : s < 512 := by omega
          by_cases hkl : k < es.length
          · cases hv : leastTo J s k with
            | false =>
              have hmiss : leastK es.length J (s + 1) = leastK es.length J s := leastK_miss (by rw [← leastTo_all]; exact leastTo_false hv _ hk)
              rw [← hmiss] at ON
              clear hmiss hv
              go_wp2_with fail
              go_roundw
              case rel => first
                | exact ⟨s + 1, by omega, by go_num, ON⟩
                | ((repeat apply Exists.intro); refine ⟨⟨s + 1, by omega, ?_, ON⟩, rfl⟩; (· go_num))
              case measure => simp [intOf]; try omega
            | true =>
              have hbv := bit_val s k
              have hnx : Hid (leastTo J s (k + 1) = (!s.testBit k || !J (s - 2 ^ k))) := by rw [Hid, leastTo, hv]; rfl
              have hbits : bits (s : Int) k = s.testBit k := by simp [bits]
              rw [hbits] at hbv
              clear hv hbits
              cases hb : s.testBit k with
              | false =>
                rw [hb] at hbv hnx
                have hz0 : ((s : Int) / 2 ^ k).tmod 2 = 0 := by simpa using hbv
                have HN : Hid (leastTo J s (k + 1) = true) := by rw [Hid, hnx.out]; rfl
                clear hbv hnx hb
                go_wp2_with fail
                refine wp_region_class (fun u => OutNet w u n A cap es u7 (natI (leastK es.length J s))) (by kernel_rfl) (by kernel_rfl) ON.drew ?_
                intro X hX f hf hex
                have k0 : ∀ x, (f x).cell? ⟨w.heap.size, 0, none⟩ = some (.int .i64 n) := fun x => (hf x).net.c0
                have k1 : ∀ x, (f x).cell? ⟨w.heap.size, 1, none⟩ = some (.slice A es.length cap) := fun x => (hf x).net.c1
                repeat (go_big_quiet_step (fail))
                refine wpQuiet_nil ?_
                rintro _ ⟨x, rfl⟩
                have ON4 := hf x
                clear k0 k1
                go_wp2_with fail
                go_roundw
                case rel => exact ⟨k + 1, by omega, by rw [HN.out], by go_num, ON4⟩
                case measure => simp [intOf]; omega
              | true =>
                rw [hb] at hbv hnx
                have hz1 : ((s : Int) / 2 ^ k).tmod 2 = 1 := by simpa using hbv
                have hlow := (less_bits h9 (show s < 2 ^ es.length by rw [HPw.out]; exact hlt) hb).1
                have hsw := sub_wrap s k hss (by omega) hlow
                have hC : ∀ u, OutNet w u n A cap es u7 (natI (leastK es.length J s)) → Calls Try.prog 120 #[.agg #[.int .i64 n, .slice A es.length cap], .int .i64 (s - 2 ^ k : Nat), .int .i64 a, .int .i64 b] u fun e w' => e = .returned (.bool (J (s - 2 ^ k))) ∧ Below u.heap.size u w' :=
                  fun u hu => HJ.out u hu.net.edges (s - 2 ^ k) (Nat.lt_of_le_of_lt (Nat.sub_le _ _) hlt)
                have HN : Hid (leastTo J s (k + 1) = !J (s - 2 ^ k)) := by rw [Hid, hnx.out]; simp
                generalize J (s - 2 ^ k) = v at *
                generalize s - 2 ^ k = t at *
                clear hbv hnx hb hlow
                go_wp2_with fail
                refine wp_region_class (fun u => OutNet w u n A cap es u7 (natI (leastK es.length J s))) (by kernel_rfl) (by kernel_rfl) ON.drew ?_
                intro X hX f hf hex
                have hOn : ∀ u, OutNet w u n A cap es u7 (natI (leastK es.length J s)) → ∀ w', Below u.heap.size u w' → OutNet w w' n A cap es u7 (natI (leastK es.length J s)) := fun u h w' hb => h.next hb
                have k0 : ∀ x, (f x).cell? ⟨w.heap.size, 0, none⟩ = some (.int .i64 n) := fun x => (hf x).net.c0
                have k1 : ∀ x, (f x).cell? ⟨w.heap.size, 1, none⟩ = some (.slice A es.length cap) := fun x => (hf x).net.c1
                repeat (go_big_quiet_step (first
                  | (go_at_call 120; with_reducible exact class_of hex (hC _ (hf _)) (hOn _ (hf _)))))
                refine wpQuiet_nil ?_
                rintro _ ⟨x, rfl⟩
                have ON4 := hf x
                clear k0 k1
                go_wp2_with fail
                go_roundw
                case rel => exact ⟨k + 1, by omega, by rw [HN.out], by go_num, ON4⟩
                case measure => simp [intOf]; omega
          · obtain rfl : k = es.length := by omega
            cases hv : leastTo J s es.length with
            | false =>
              have hmiss : leastK es.length J (s + 1) = leastK es.length J s := leastK_miss (by rw [← leastTo_all]; exact hv)
              rw [← hmiss] at ON
              clear hmiss hv
              go_wp2_with fail
              go_roundw
              case rel => first
                | exact ⟨s + 1, by omega, by go_num, ON⟩
                | ((repeat apply Exists.intro); refine ⟨⟨s + 1, by omega, ?_, ON⟩, rfl⟩; (· go_num))
              case measure => simp [intOf]; try omega
            | true =>
              have hhit : natI (leastK es.length J (s + 1)) = natI (leastK es.length J s) ++ [(s : Int)] := by rw [leastK_hit (by rw [← leastTo_all]; exact hv), natI_append]; rfl
              have hlen := leastK_len es.length J s
              rw [← natI_length] at hlen
              have hsz := ON.net.lt
              have own1 := ON.own
              generalize natI (leastK es.length J s) = xs at *
              have HH := Lib.hid hhit
              clear hhit hv
              obtain ⟨i0, hi0, hz0, hz1, hz2⟩ := info_parts int_info
              obtain ⟨W, hW⟩ : ∃ W, W = wr := ⟨_, rfl⟩
              rw [← hW] at ON own1 c0 c1 hsz ⊢
              clear hW
              go_wp2_with (at_builtin; refine wpList_append_own _ rfl _ _ 23 rfl (w.heap.size + 1) 3 i0 (.int .i64 0) 1 8 Try.underlying23 hi0 hz0 hz1 hz2 rfl (by decide) _ _ _ rfl (own1.alloc _) ⟨W.heap.size, 0, none⟩ 1 1 [.int .i64 s] rfl rfl (one_cell s _ _) (by intro u hu; simp at hu; subst hu; rfl) (by unfold maxLen; omega) (by omega) (by simp; omega) ?_; intro v3 w3 hown3 hgrow _)
              have own3 : OwnI w3 (w.heap.size + 1) v3 (natI (leastK es.length J (s + 1))) := by rw [HH.out]; unfold OwnI; rw [List.length_append, ints_append]; exact hown3
              have hb3 : Below (w.heap.size + 1) W w3 := ((Below.refl (w.heap.size + 1) W).alloc (by omega) _).grown hgrow (by simp; omega) (fun j hj => own1.ge j hj)
              have ON3 : OutNet w w3 n A cap es v3 (natI (leastK es.length J (s + 1))) := ⟨ON.net.step hb3 (by omega), own3⟩
              clear hown3 hgrow own3 hb3 own1 ON c0 c1
              go_wp2_with fail
              go_roundw
              case rel => first
                | exact ⟨s + 1, by omega, by go_num, ON3⟩
                | ((repeat apply Exists.intro); refine ⟨⟨s + 1, by omega, ?_, ON3⟩, rfl⟩; (· go_num))
              case measure => simp [intOf]; try omega
      · obtain rfl : s = P := by omega
        rw [HA.out] at ON
        have own := ON.own
        have hbel := ON.net.below
        clear ON
        obtain ⟨xs, hxs⟩ : ∃ xs, natI (leastL es.length J) = xs := ⟨_, rfl⟩
        rw [hxs] at own
        have HX : Hid (natI (pathsN n es a b) = xs) := by rw [Hid, HP.out]; exact hxs
        clear hxs
        rcases own.form with ⟨rfl, rfl⟩ | ⟨g, c, rfl, _, _⟩
        · go_wp2_with fail
          go_returns
          exact ⟨none, 0, by rw [HX.out]; rfl, by rw [HX.out]; exact own.more (by omega), hbel⟩
        · go_wp2_with fail
          go_returns
          exact ⟨some ⟨g, 0, none⟩, c, by rw [HX.out]; rfl, by rw [HX.out]; exact own.more (by omega), hbel⟩
  · have HL : Hid (natI (pathsN n es a b) = []) := by rw [Hid, pathsN, if_neg hok]; rfl
    have HN : Hid (joinOkB n es a b = false) := by simpa [Hid] using hok
    clear hok
    have c0 := ON.net.c0
    have c1 := ON.net.c1
    go_enter Try.func85, Try.ntmps85
    go_wp2_with fail
    refine (l4Ends_any _ _ _ _ _ _ _ ON.net.edges hl).mono ?_
    rintro e1 w1 ⟨rfl, hb1⟩
    rw [HN.out]
    have ON1 := ON.next hb1
    clear ON hb1 c0 c1
    have c0 := ON1.net.c0
    have c1 := ON1.net.c1
    have own := ON1.own
    have hbel := ON1.net.below
    go_wp2_with fail
    go_returns
    exact ⟨some ⟨w.heap.size + 1, 0, none⟩, 0, by rw [HL.out]; rfl, by rw [HL.out]; exact own.more (by omega), hbel⟩
theorem rest_less {P s q : Nat} (h : q ≤ s) (hs : s < P) : P - 1 - s + q = P - 1 - (s - q) := by omega
theorem add_wrap (m k r : Nat) (hm : m < 512) (hk : k < 9) (h : m + 2 ^ k = r) : IntKind.i64.wrap ((m : Int) + wrap64 (2 ^ k)) = (r : Int) := by
  subst h
  revert m; revert k; decide +kernel

end Go.Proofs.Ytmdmmebekicpkaa
