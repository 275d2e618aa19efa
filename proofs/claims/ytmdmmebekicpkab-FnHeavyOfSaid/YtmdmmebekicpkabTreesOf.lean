/- TreesOf of the reference: all trees of a net. -/
import Derived.Test.YtmdmmebekicpkabImpl9
import Derived.Test.YtmdmmebekicpkabSpec9
import Derived.Test.YtmdmmebekicpkabSieve
import Derived.Test.YtmdmmebekicpkabList4
namespace Go.Proofs.Ytmdmmebekicpkab
open Go.RowKit
set_option maxRecDepth 100000

def treesK (n : Int) (es : List (Int × Int)) (s : Nat) : List Nat := (List.range s).filter fun t => treeB n es (t : Nat)
def treesN (n : Int) (es : List (Int × Int)) : List Nat := if netOkB n es = true then treesK n es (2 ^ es.length) else []
theorem treesK_hit {n : Int} {es : List (Int × Int)} {s : Nat} (h : treeB n es (s : Nat) = true) : treesK n es (s + 1) = treesK n es s ++ [s] := by
  unfold treesK; rw [List.range_succ, List.filter_append]; simp [h]
theorem treesK_miss {n : Int} {es : List (Int × Int)} {s : Nat} (h : treeB n es (s : Nat) = false) : treesK n es (s + 1) = treesK n es s := by
  unfold treesK; rw [List.range_succ, List.filter_append]; simp [h]
theorem treesK_len (n : Int) (es : List (Int × Int)) (s : Nat) : (treesK n es s).length ≤ s := by
  unfold treesK; exact Nat.le_trans (List.length_filter_le _ _) (by rw [List.length_range]; exact Nat.le_refl _)
theorem treesN_len (n : Int) (es : List (Int × Int)) : (treesN n es).length ≤ 512 := by
  unfold treesN
  split
  · rename_i h
    have h9 := (netOkB_iff.1 h).2.1
    exact Nat.le_trans (treesK_len _ _ _) (Nat.pow_le_pow_right (n := 2) (by omega) h9)
  · simp
theorem treesN_mem {n : Int} {es : List (Int × Int)} {t : Nat} : t ∈ treesN n es ↔ treeB n es (t : Nat) = true := by
  unfold treesN treesK
  split
  · rename_i h
    rw [List.mem_filter, List.mem_range]
    refine ⟨fun k => k.2, fun k => ⟨?_, k⟩⟩
    obtain ⟨m, e, hm, -⟩ := state_nat (treeB_ok k)
    omega
  · rename_i h
    refine ⟨fun k => by simp at k, fun k => absurd (stateOkB_net (treeB_ok k)) h⟩

/-- The class of worlds in which the loop runs. -/
structure OutTr (w u : World) (n : Int) (A : Option Addr) (cap : Nat) (es : List (Int × Int)) (v : Value) (xs : List Int) : Prop where
  net : ArgNet w u n A cap es
  own : OwnI u (w.heap.size + 1) v xs
theorem OutTr.next {w u u' : World} {n : Int} {A : Option Addr} {cap : Nat} {es : List (Int × Int)} {v : Value} {xs : List Int} (h : OutTr w u n A cap es v xs) (hb : Below u.heap.size u u') : OutTr w u' n A cap es v xs :=
  ⟨h.net.step hb h.net.lt, h.own.below hb h.own.lt⟩
theorem OutTr.on {w u : World} {n : Int} {A : Option Addr} {cap : Nat} {es : List (Int × Int)} {v : Value} {xs : List Int} (h : OutTr w u n A cap es v xs) : ∀ w', Below u.heap.size u w' → OutTr w w' n A cap es v xs := fun _ hb => h.next hb
theorem OutTr.drew {w u : World} {n : Int} {A : Option Addr} {cap : Nat} {es : List (Int × Int)} {v : Value} {xs : List Int} (h : OutTr w u n A cap es v xs) : OutTr w u.drew n A cap es v xs :=
  ⟨h.net.drew, h.own.drew⟩

set_option maxHeartbeats 4000000 in
theorem specTreesOf_any (n : Int) (A : Option Addr) (cap : Nat) (es : List (Int × Int)) (w : World) (hes : EdgesIn w w.heap.size A es) (hl : es.length ≤ 1048576) :
    Calls Try.prog 94 #[.agg #[.int .i64 n, .slice A es.length cap]] w (GotInts w (natI (treesN n es))) := by
  have L0 := ArgNet.start (cap := cap) (n := n) 25 hes
  have hbx := (Below.refl (w.heap.size + 1) (w.alloc (.cells #[.int .i64 n, .slice A es.length cap] 25))).alloc (by simp) (.cells #[] 3)
  have L1 := L0.step hbx (by omega)
  have own1 : OwnI ((w.alloc (.cells #[.int .i64 n, .slice A es.length cap] 25)).alloc (.cells #[] 3)) (w.heap.size + 1) (.slice (some ⟨w.heap.size + 1, 0, none⟩) 0 0) [] := by
    have o1 : OwnI ((w.alloc (.cells #[.int .i64 n, .slice A es.length cap] 25)).alloc (.cells #[] 3)) (w.heap.size + 1) (.slice (some ⟨(w.alloc (.cells #[.int .i64 n, .slice A es.length cap] 25)).heap.size, 0, none⟩) 0 0) [] := OwnI.box _ [] (by simp) (by simp)
    rw [World.size_alloc] at o1
    exact o1
  have ON : OutTr w _ n A cap es _ [] := ⟨L1, own1⟩
  clear hbx L0 own1 L1
  cases hok : netOkB n es with
  | false =>
    have HT : Hid (natI (treesN n es) = []) := by unfold Hid treesN; rw [hok]; rfl
    have HN : Hid (∀ u, OutTr w u n A cap es (.slice (some ⟨w.heap.size + 1, 0, none⟩) 0 0) [] → Calls Try.prog 18 #[.agg #[.int .i64 n, .slice A es.length cap]] u fun e w' => e = .returned (.bool false) ∧ Below u.heap.size u w') := fun u h => by
      rw [← hok]; exact specNetOk_any n A cap es u h.net.edges hl
    have c0 := ON.net.c0
    have c1 := ON.net.c1
    rw [HT.out]
    clear hok hes
    go_enter Try.func94, Try.ntmps94
    go_wp2_with fail
    refine (HN.out _ ON).mono ?_
    rintro e1 w1 ⟨rfl, hb1⟩
    have ON1 := ON.next hb1
    go_wp2_with fail
    go_returns
    exact ⟨some ⟨w.heap.size + 1, 0, none⟩, 0, rfl, ON1.own.more (by omega), ON1.net.below⟩
  | true =>
    have h9 := (netOkB_iff.1 hok).2.1
    have hn26 := (netOkB_iff.1 hok).1
    have HN : Hid (∀ u, OutTr w u n A cap es (.slice (some ⟨w.heap.size + 1, 0, none⟩) 0 0) [] → Calls Try.prog 18 #[.agg #[.int .i64 n, .slice A es.length cap]] u fun e w' => e = .returned (.bool true) ∧ Below u.heap.size u w') := fun u h => by
      rw [← hok]; exact specNetOk_any n A cap es u h.net.edges hl
    have HT : Hid (treesN n es = treesK n es (2 ^ es.length)) := by unfold Hid treesN; rw [hok]; rfl
    have HM : Hid (∀ s : Nat, s < 512 → ∀ u, Calls Try.prog 66 #[.int .i64 (s : Nat)] u fun e w' => e = .returned (.int .i64 (pop s)) ∧ u = w') := fun s hs u => l1Many_any s u (by omega)
    have HL : Hid (∀ s : Nat, s < 2 ^ es.length → ∀ u, ArgNet w u n A cap es → Calls Try.prog 67 #[.agg #[.int .i64 n, .slice A es.length cap], .int .i64 (s : Nat)] u fun e w' => e = .returned (.int .i64 (piecesB n es s : Nat)) ∧ Below u.heap.size u w') := fun s hs u h => l2Pieces_any n s A cap es u h.edges (state_of hok hs)
    have HV : Hid (∀ s : Nat, s < 2 ^ es.length → treeB n es (s : Nat) = (decide ((pop s : Int) = n - 1) && decide (((piecesB n es s : Nat) : Int) = 1)) ∧ pop s ≤ 9) := fun s hs => by
      have hS := state_of hok hs
      have ht : thereI n es s = pop s := by unfold thereI; rw [hS, if_pos rfl]; rfl
      have h3 := there_lt hS
      refine ⟨?_, by omega⟩
      unfold treeB; rw [hS, ht, (piecesI_lt hS).1]; rfl
    have wn : IntKind.i64.wrap (n - 1) = n - 1 := IntWalk.i64_in _ (by omega)
    have hlmin : min es.length 64 = es.length := by omega
    obtain ⟨P, hP, p1, p2, hp3, hp4⟩ := pow_named12 (show es.length ≤ 13 by omega)
    have hP9 : P ≤ 512 := by rw [← hP]; exact Nat.pow_le_pow_right (n := 2) (by omega) h9
    rw [hP] at HT HL HV
    have c0 := ON.net.c0
    have c1 := ON.net.c1
    clear hok hes hP
    go_enter Try.func94, Try.ntmps94
    go_wp2_with fail
    refine (HN.out _ ON).mono ?_
    rintro e1 w1 ⟨rfl, hb1⟩
    have ON1 := ON.next hb1
    clear ON hb1 c0 c1 HN
    go_wp2_with fail
    go_loopw [3, 4] (fun v t wr => ∃ s : Nat, s ≤ P ∧ t = .int .i64 (s : Nat) ∧ OutTr w wr n A cap es v (natI (treesK n es s))) (fun _ t _ => P - (intOf t).toNat)
    case atStart => exact ⟨0, by omega, rfl, ON1⟩
    case round =>
      clear ON1
      obtain ⟨s, hs, rfl, ON⟩ := hrel
      have c0 := ON.net.c0
      have c1 := ON.net.c1
      by_cases hlt : s < P
      · obtain ⟨hv, hpop⟩ := HV.out s hlt
        have H1 := Lib.hid (HM.out s (by omega))
        have H2 := Lib.hid (HL.out s hlt)
        obtain ⟨z, hz⟩ : ∃ z, pop s = z := ⟨_, rfl⟩
        obtain ⟨y, hy⟩ : ∃ y, piecesB n es s = y := ⟨_, rfl⟩
        rw [hz, hy] at hv
        rw [hz] at H1 hpop
        rw [hy] at H2
        clear hz hy
        by_cases hzn : (z : Int) = n - 1
        · by_cases hy1 : y = 1
          · subst hy1
            rw [decide_eq_true hzn] at hv
            have hhit : natI (treesK n es (s + 1)) = natI (treesK n es s) ++ [(s : Int)] := by rw [treesK_hit (hv.trans (by simp)), natI_append]; rfl
            have HH := Lib.hid hhit
            clear hhit hv
            have hlen := treesK_len n es s
            rw [← natI_length] at hlen
            generalize natI (treesK n es s) = xs at *
            go_wp2_with fail
            refine wp_region_class (fun u => OutTr w u n A cap es u3 xs) (by kernel_rfl) (by kernel_rfl) ON.drew ?_
            clear ON c0 c1
            intro X hX f hf hex
            have k0 : ∀ x, (f x).cell? ⟨w.heap.size, 0, none⟩ = some (.int .i64 n) := fun x => (hf x).net.c0
            have k1 : ∀ x, (f x).cell? ⟨w.heap.size, 1, none⟩ = some (.slice A es.length cap) := fun x => (hf x).net.c1
            repeat (go_big_quiet_step (first | (go_at_call 66; with_reducible exact class_same (H1.out _)) | (go_at_call 67; with_reducible exact class_of hex (H2.out _ (hf _).net) (hf _).on)))
            refine wpQuiet_nil ?_
            rintro _ ⟨x, rfl⟩
            have ON := hf x
            generalize f x = W at *
            clear k0 k1 hf hex
            have hsz := ON.net.lt
            have own1 := ON.own
            obtain ⟨i0, hi0, hz0, hz1, hz2⟩ := info_parts int_info
            go_wp2_with (at_builtin; refine wpList_append_own _ rfl _ _ 26 rfl (w.heap.size + 1) 3 i0 (.int .i64 0) 1 8 Try.underlying26 hi0 hz0 hz1 hz2 rfl (by decide) _ _ _ rfl (own1.alloc _) ⟨W.heap.size, 0, none⟩ 1 1 [.int .i64 s] rfl rfl (one_cell s _ _) (by intro u hu; simp at hu; subst hu; rfl) (by unfold maxLen; omega) (by omega) (by simp; omega) ?_; intro v3 w3 hown3 hgrow _)
            have own3 : OwnI w3 (w.heap.size + 1) v3 (natI (treesK n es (s + 1))) := by rw [HH.out]; unfold OwnI; rw [List.length_append, ints_append]; exact hown3
            have hb3 : Below (w.heap.size + 1) W w3 := ((Below.refl (w.heap.size + 1) W).alloc (by omega) _).grown hgrow (by simp; omega) (fun j hj => own1.ge j hj)
            have ON3 : OutTr w w3 n A cap es v3 (natI (treesK n es (s + 1))) := ⟨ON.net.step hb3 (by omega), own3⟩
            clear hown3 hgrow own3 hb3 own1 ON
            go_roundw
            case rel => exact ⟨s + 1, by omega, by go_num, ON3⟩
            case measure => simp [intOf]; omega
          · have hmiss : treesK n es (s + 1) = treesK n es s := treesK_miss (hv.trans (by simp; intro _; omega))
            have hne : ((y : Int) == 1) = false := beq_eq_false_iff_ne.2 (by omega)
            rw [← hmiss] at ON
            clear hmiss hv
            obtain ⟨xs, hxs⟩ : ∃ xs, natI (treesK n es (s + 1)) = xs := ⟨_, rfl⟩
            rw [hxs] at ON
            have HX := Lib.hid hxs
            clear hxs
            go_wp2_with fail
            refine wp_region_class (fun u => OutTr w u n A cap es u3 xs) (by kernel_rfl) (by kernel_rfl) ON.drew ?_
            clear ON c0 c1
            intro X hX f hf hex
            have k0 : ∀ x, (f x).cell? ⟨w.heap.size, 0, none⟩ = some (.int .i64 n) := fun x => (hf x).net.c0
            have k1 : ∀ x, (f x).cell? ⟨w.heap.size, 1, none⟩ = some (.slice A es.length cap) := fun x => (hf x).net.c1
            repeat (go_big_quiet_step (first | (go_at_call 66; with_reducible exact class_same (H1.out _)) | (go_at_call 67; with_reducible exact class_of hex (H2.out _ (hf _).net) (hf _).on)))
            refine wpQuiet_nil ?_
            rintro _ ⟨x, rfl⟩
            have ON := hf x
            clear k0 k1
            go_wp2_with fail
            go_roundw
            case rel => exact ⟨s + 1, by omega, by go_num, by rw [HX.out]; exact ON⟩
            case measure => simp [intOf]; omega
        · have hmiss : treesK n es (s + 1) = treesK n es s := treesK_miss (hv.trans (by rw [decide_eq_false hzn]; rfl))
          have hne : ((z : Int) == n - 1) = false := beq_eq_false_iff_ne.2 hzn
          rw [← hmiss] at ON
          clear hmiss hv
          obtain ⟨xs, hxs⟩ : ∃ xs, natI (treesK n es (s + 1)) = xs := ⟨_, rfl⟩
          rw [hxs] at ON
          have HX := Lib.hid hxs
          clear hxs
          go_wp2_with fail
          refine wp_region_class (fun u => OutTr w u n A cap es u3 xs) (by kernel_rfl) (by kernel_rfl) ON.drew ?_
          clear ON c0 c1
          intro X hX f hf hex
          have k0 : ∀ x, (f x).cell? ⟨w.heap.size, 0, none⟩ = some (.int .i64 n) := fun x => (hf x).net.c0
          have k1 : ∀ x, (f x).cell? ⟨w.heap.size, 1, none⟩ = some (.slice A es.length cap) := fun x => (hf x).net.c1
          repeat (go_big_quiet_step (first | (go_at_call 66; with_reducible exact class_same (H1.out _))))
          refine wpQuiet_nil ?_
          rintro _ ⟨x, rfl⟩
          have ON := hf x
          clear k0 k1
          go_wp2_with fail
          go_roundw
          case rel => exact ⟨s + 1, by omega, by go_num, by rw [HX.out]; exact ON⟩
          case measure => simp [intOf]; omega
      · obtain rfl : s = P := by omega
        rw [← HT.out] at ON
        obtain ⟨xs, hxs⟩ : ∃ xs, natI (treesN n es) = xs := ⟨_, rfl⟩
        rw [hxs] at ON
        have HX := Lib.hid hxs
        have own := ON.own
        have hbel := ON.net.below
        clear ON hxs
        rcases own.form with ⟨rfl, rfl⟩ | ⟨g, c, rfl, _, _⟩
        · go_wp2_with fail
          go_returns
          exact ⟨none, 0, by rw [HX.out]; rfl, by rw [HX.out]; exact own.more (show w.heap.size ≤ w.heap.size + 1 by omega), hbel⟩
        · go_wp2_with fail
          go_returns
          exact ⟨some ⟨g, 0, none⟩, c, by rw [HX.out]; rfl, by rw [HX.out]; exact own.more (show w.heap.size ≤ w.heap.size + 1 by omega), hbel⟩
end Go.Proofs.Ytmdmmebekicpkab
