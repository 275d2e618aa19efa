/- Chapter 11 of the reference: BasesOf. -/
import Derived.Test.YtdacfeebidhgnaaBases
import Derived.Test.YtdacfeebidhgnaaTreesOf
import Derived.Test.YtdacfeebidhgnaaSpecCnt
namespace Go.Proofs.Ytdacfeebidhgnaa
open Go.RowKit
set_option maxRecDepth 100000

set_option maxHeartbeats 8000000 in
theorem specBasesOf_any (n : Int) (A : Option Addr) (cap : Nat) (es : List (Int × Int)) (w : World) (hes : EdgesIn w w.heap.size A es) (hl : es.length ≤ 1048576) :
    Calls Try.prog 20 #[.agg #[.int .i64 n, .slice A es.length cap]] w (GotInts w (natI (basesN n es))) := by
  have L0 := ArgNet.start (cap := cap) (n := n) 29 hes
  have hbx := (Below.refl (w.heap.size + 1) (w.alloc (.cells #[.int .i64 n, .slice A es.length cap] 29))).alloc (by simp) (.cells #[] 3)
  have L1 := L0.step hbx (by omega)
  have own1 : OwnI ((w.alloc (.cells #[.int .i64 n, .slice A es.length cap] 29)).alloc (.cells #[] 3)) (w.heap.size + 1) (.slice (some ⟨w.heap.size + 1, 0, none⟩) 0 0) [] := by
    have o1 : OwnI ((w.alloc (.cells #[.int .i64 n, .slice A es.length cap] 29)).alloc (.cells #[] 3)) (w.heap.size + 1) (.slice (some ⟨(w.alloc (.cells #[.int .i64 n, .slice A es.length cap] 29)).heap.size, 0, none⟩) 0 0) [] := OwnI.box _ [] (by simp) (by simp)
    rw [World.size_alloc] at o1
    exact o1
  have ON : OutTr w _ n A cap es _ [] := ⟨L1, own1⟩
  clear hbx L0 own1 L1
  cases hok : netOkB n es with
  | false =>
    have HT : Hid (natI (basesN n es) = []) := by unfold Hid basesN; rw [hok]; rfl
    have HN : Hid (∀ u, OutTr w u n A cap es (.slice (some ⟨w.heap.size + 1, 0, none⟩) 0 0) [] → Calls Try.prog 52 #[.agg #[.int .i64 n, .slice A es.length cap]] u fun e w' => e = .returned (.bool false) ∧ Below u.heap.size u w') := fun u h => by
      rw [← hok]; exact specNetOk_any n A cap es u h.net.edges hl
    have c0 := ON.net.c0
    have c1 := ON.net.c1
    rw [HT.out]
    clear hok hes
    go_enter Try.func20, Try.ntmps20
    go_wp2_with fail
    refine (HN.out _ ON).mono ?_
    rintro e1 w1 ⟨rfl, hb1⟩
    have ON1 := ON.next hb1
    go_wp2_with fail
    go_returns
    exact ⟨some ⟨w.heap.size + 1, 0, none⟩, 0, rfl, ON1.own.more (by omega), ON1.net.below⟩
  | true =>
    have h9 := (netOkB_iff.1 hok).2.1
    have hn26 := (netOkB_iff.1 hok).1
    have HN : Hid (∀ u, OutTr w u n A cap es (.slice (some ⟨w.heap.size + 1, 0, none⟩) 0 0) [] → Calls Try.prog 52 #[.agg #[.int .i64 n, .slice A es.length cap]] u fun e w' => e = .returned (.bool true) ∧ Below u.heap.size u w') := fun u h => by
      rw [← hok]; exact specNetOk_any n A cap es u h.net.edges hl
    have HT : Hid (basesN n es = leastK' es (2 ^ es.length)) := by unfold Hid basesN; rw [hok]; rfl
    have HM : Hid (∀ s : Nat, s < 512 → ∀ u, Calls Try.prog 67 #[.int .i64 (s : Nat)] u fun e w' => e = .returned (.int .i64 (pop s)) ∧ u = w') := fun s hs u => l1Many_any s u (by omega)
    have HL : Hid (∀ s : Nat, s < 2 ^ es.length → ∀ u, ArgNet w u n A cap es → Calls Try.prog 66 #[.agg #[.int .i64 n, .slice A es.length cap], .int .i64 (s : Nat)] u fun e w' => e = .returned (.int .i64 (piecesB n es s : Nat)) ∧ Below u.heap.size u w') := fun s hs u h => l2Pieces_any n s A cap es u h.edges (state_of hok hs)
    have HV : Hid (∀ s : Nat, s < 2 ^ es.length → leastS es (s : Nat) = (decide ((piecesB n es s : Int) = (piecesB n es ((2 ^ es.length - 1 : Nat) : Int) : Nat)) && decide (n - (piecesB n es ((2 ^ es.length - 1 : Nat) : Int) : Nat) = (pop s : Nat))) ∧ pop s ≤ 9) := fun s hs => by
      have hS := state_of hok hs
      have ht : thereI n es s = pop s := by unfold thereI; rw [hS, if_pos rfl]; rfl
      have h3 := there_lt hS
      refine ⟨?_, by omega⟩
      have := leastS_pieces hS
      rwa [Int.toNat_natCast] at this
    have hM6 : piecesB n es ((2 ^ es.length - 1 : Nat) : Int) ≤ n.toNat := pcs_le _ _ _ _
    have HL0 := HL.out (2 ^ es.length - 1) (vall_lt _)
    have hlmin : min es.length 64 = es.length := by omega
    obtain ⟨P, hP, p1, p2, hp3, hp4⟩ := pow_named h9
    rw [hP] at HT HL HV HL0 hM6
    obtain ⟨Q, hQ⟩ : ∃ Q, P - 1 = Q := ⟨_, rfl⟩
    have wq : IntKind.i64.wrap ((P : Int) - 1) = (Q : Int) := by rw [IntWalk.i64_in _ (by omega)]; omega
    rw [hQ] at HV HL0 hM6
    obtain ⟨M, hM⟩ : ∃ M, piecesB n es ((Q : Nat) : Int) = M := ⟨_, rfl⟩
    rw [hM] at HV HL0 hM6
    have HL1 := Lib.hid HL0
    have wn : IntKind.i64.wrap (n - (M : Int)) = n - (M : Int) := IntWalk.i64_in _ (by omega)
    have c0 := ON.net.c0
    have c1 := ON.net.c1
    clear hok hes hP HL0 hM hQ
    go_enter Try.func20, Try.ntmps20
    go_wp2_with fail
    refine (HN.out _ ON).mono ?_
    rintro e1 w1 ⟨rfl, hb1⟩
    have ON1 := ON.next hb1
    clear ON hb1 c0 c1 HN
    go_wp2_with fail
    refine wp_region_class (fun u => OutTr w u n A cap es (.slice (some ⟨w.heap.size + 1, 0, none⟩) 0 0) []) (by kernel_rfl) (by kernel_rfl) ON1.drew ?_
    clear ON1
    intro X hX f hf hex
    have k0 : ∀ x, (f x).cell? ⟨w.heap.size, 0, none⟩ = some (.int .i64 n) := fun x => (hf x).net.c0
    have k1 : ∀ x, (f x).cell? ⟨w.heap.size, 1, none⟩ = some (.slice A es.length cap) := fun x => (hf x).net.c1
    repeat (go_big_quiet_step (first | (go_at_call 66; with_reducible exact class_of hex (HL1.out _ (hf _).net) (hf _).on)))
    refine wpQuiet_nil ?_
    rintro _ ⟨x, rfl⟩
    have ON1 := hf x
    generalize f x = W0 at *
    clear k0 k1 hf hex
    go_wp2_with fail
    go_loopw [3, 5] (fun v t wr => ∃ s : Nat, s ≤ P ∧ t = .int .i64 (s : Nat) ∧ OutTr w wr n A cap es v (natI (leastK' es s))) (fun _ t _ => P - (intOf t).toNat)
    case atStart => exact ⟨0, by omega, rfl, ON1⟩
    case round =>
      clear ON1
      obtain ⟨s, hs, rfl, ON⟩ := hrel
      have c0 := ON.net.c0
      have c1 := ON.net.c1
      by_cases hlt : s < P
      · obtain ⟨hv, hpop⟩ := HV.out s hlt
        have H1 := Lib.hid (HM.out s (by omega))
        have H2 := Lib.hid (HL.out s hlt)
        obtain ⟨z, hz⟩ : ∃ z, pop s = z := ⟨_, rfl⟩
        obtain ⟨y, hy⟩ : ∃ y, piecesB n es s = y := ⟨_, rfl⟩
        rw [hz, hy] at hv
        rw [hz] at H1 hpop
        rw [hy] at H2
        clear hz hy
        by_cases hy1 : y = M
        · subst hy1
          by_cases hzn : n - (y : Int) = (z : Int)
          · rw [decide_eq_true hzn] at hv
            have hhit : natI (leastK' es (s + 1)) = natI (leastK' es s) ++ [(s : Int)] := by rw [leastK'_hit (hv.trans (by simp)), natI_append]; rfl
            have HH := Lib.hid hhit
            clear hhit hv
            have hlen := leastK'_len es s
            rw [← natI_length] at hlen
            generalize natI (leastK' es s) = xs at *
            have hzb : (n - (y : Int) == (z : Int)) = true := beq_iff_eq.2 hzn
            clear hzn
            go_wp2_with fail
            refine wp_region_class (fun u => OutTr w u n A cap es u3 xs) (by kernel_rfl) (by kernel_rfl) ON.drew ?_
            clear ON c0 c1
            intro X hX f hf hex
            have k0 : ∀ x, (f x).cell? ⟨w.heap.size, 0, none⟩ = some (.int .i64 n) := fun x => (hf x).net.c0
            have k1 : ∀ x, (f x).cell? ⟨w.heap.size, 1, none⟩ = some (.slice A es.length cap) := fun x => (hf x).net.c1
            repeat (go_big_quiet_step (first | (go_at_call 67; with_reducible exact class_same (H1.out _)) | (go_at_call 66; with_reducible exact class_of hex (H2.out _ (hf _).net) (hf _).on)))
            refine wpQuiet_nil ?_
            rintro _ ⟨x, rfl⟩
            have ON := hf x
            generalize f x = W at *
            clear k0 k1 hf hex
            have hsz := ON.net.lt
            have own1 := ON.own
            obtain ⟨i0, hi0, hz0, hz1, hz2⟩ := info_parts int_info
            go_wp2_with (at_builtin; refine wpList_append_own _ rfl _ _ 33 rfl (w.heap.size + 1) 3 i0 (.int .i64 0) 1 8 Try.underlying33 hi0 hz0 hz1 hz2 rfl (by decide) _ _ _ rfl (own1.alloc _) ⟨W.heap.size, 0, none⟩ 1 1 [.int .i64 s] rfl rfl (one_cell s _ _) (by intro u hu; simp at hu; subst hu; rfl) (by unfold maxLen; omega) (by omega) (by simp; omega) ?_; intro v3 w3 hown3 hgrow _)
            have own3 : OwnI w3 (w.heap.size + 1) v3 (natI (leastK' es (s + 1))) := by rw [HH.out]; unfold OwnI; rw [List.length_append, ints_append]; exact hown3
            have hb3 : Below (w.heap.size + 1) W w3 := ((Below.refl (w.heap.size + 1) W).alloc (by omega) _).grown hgrow (by simp; omega) (fun j hj => own1.ge j hj)
            have ON3 : OutTr w w3 n A cap es v3 (natI (leastK' es (s + 1))) := ⟨ON.net.step hb3 (by omega), own3⟩
            clear hown3 hgrow own3 hb3 own1 ON
            go_roundw
            case rel => exact ⟨s + 1, by omega, by go_num, ON3⟩
            case measure => simp [intOf]; omega
          · have hmiss : leastK' es (s + 1) = leastK' es s := leastK'_miss (hv.trans (by rw [decide_eq_false hzn]; simp))
            have hne : (n - (y : Int) == (z : Int)) = false := beq_eq_false_iff_ne.2 hzn
            rw [← hmiss] at ON
            clear hmiss hv
            obtain ⟨xs, hxs⟩ : ∃ xs, natI (leastK' es (s + 1)) = xs := ⟨_, rfl⟩
            rw [hxs] at ON
            have HX := Lib.hid hxs
            clear hxs
            go_wp2_with fail
            refine wp_region_class (fun u => OutTr w u n A cap es u3 xs) (by kernel_rfl) (by kernel_rfl) ON.drew ?_
            clear ON c0 c1
            intro X hX f hf hex
            have k0 : ∀ x, (f x).cell? ⟨w.heap.size, 0, none⟩ = some (.int .i64 n) := fun x => (hf x).net.c0
            have k1 : ∀ x, (f x).cell? ⟨w.heap.size, 1, none⟩ = some (.slice A es.length cap) := fun x => (hf x).net.c1
            repeat (go_big_quiet_step (first | (go_at_call 67; with_reducible exact class_same (H1.out _)) | (go_at_call 66; with_reducible exact class_of hex (H2.out _ (hf _).net) (hf _).on)))
            refine wpQuiet_nil ?_
            rintro _ ⟨x, rfl⟩
            have ON := hf x
            clear k0 k1
            go_wp2_with fail
            go_roundw
            case rel => exact ⟨s + 1, by omega, by go_num, by rw [HX.out]; exact ON⟩
            case measure => simp [intOf]; omega
        · have hmiss : leastK' es (s + 1) = leastK' es s := leastK'_miss (hv.trans (by rw [decide_eq_false (by omega)]; rfl))
          have hne : ((y : Int) == (M : Int)) = false := beq_eq_false_iff_ne.2 (by omega)
          rw [← hmiss] at ON
          clear hmiss hv
          obtain ⟨xs, hxs⟩ : ∃ xs, natI (leastK' es (s + 1)) = xs := ⟨_, rfl⟩
          rw [hxs] at ON
          have HX := Lib.hid hxs
          clear hxs
          go_wp2_with fail
          refine wp_region_class (fun u => OutTr w u n A cap es u3 xs) (by kernel_rfl) (by kernel_rfl) ON.drew ?_
          clear ON c0 c1
          intro X hX f hf hex
          have k0 : ∀ x, (f x).cell? ⟨w.heap.size, 0, none⟩ = some (.int .i64 n) := fun x => (hf x).net.c0
          have k1 : ∀ x, (f x).cell? ⟨w.heap.size, 1, none⟩ = some (.slice A es.length cap) := fun x => (hf x).net.c1
          repeat (go_big_quiet_step (first | (go_at_call 67; with_reducible exact class_same (H1.out _)) | (go_at_call 66; with_reducible exact class_of hex (H2.out _ (hf _).net) (hf _).on)))
          refine wpQuiet_nil ?_
          rintro _ ⟨x, rfl⟩
          have ON := hf x
          clear k0 k1
          go_wp2_with fail
          go_roundw
          case rel => exact ⟨s + 1, by omega, by go_num, by rw [HX.out]; exact ON⟩
          case measure => simp [intOf]; omega
      · obtain rfl : s = P := by omega
        rw [← HT.out] at ON
        obtain ⟨xs, hxs⟩ : ∃ xs, natI (basesN n es) = xs := ⟨_, rfl⟩
        rw [hxs] at ON
        have HX := Lib.hid hxs
        have own := ON.own
        have hbel := ON.net.below
        clear ON hxs
        rcases own.form with ⟨rfl, rfl⟩ | ⟨g, c, rfl, _, _⟩
        · go_wp2_with fail
          go_returns
          exact ⟨none, 0, by rw [HX.out]; rfl, by rw [HX.out]; exact own.more (show w.heap.size ≤ w.heap.size + 1 by omega), hbel⟩
        · go_wp2_with fail
          go_returns
          exact ⟨some ⟨g, 0, none⟩, c, by rw [HX.out]; rfl, by rw [HX.out]; exact own.more (show w.heap.size ≤ w.heap.size + 1 by omega), hbel⟩
end Go.Proofs.Ytdacfeebidhgnaa
