/- Grids of the reference: CountLeads. -/
import Derived.Test.YtcmomghlepmogaaDoorSpec7f
namespace Go.Proofs.YtcmomghlepmogaaDoor
open Go.RowKit
set_option maxRecDepth 100000

def cntLL (c r : Int) : List Int := if gridOkB c r = true then (tabL c.toNat r.toNat).map Int.ofNat else []
theorem cntLL_len {C R : Nat} (hc : 2 ≤ C ∧ C ≤ 4) (hr : 1 ≤ R ∧ R ≤ 3) : ((tabL C R).map Int.ofNat).length = gridE C R + 1 := by rw [← leads_row hc hr, cntR_length]

theorem cntLL_le (c r : Int) : (cntLL c r).length ≤ 14 := by
  unfold cntLL
  split
  next h =>
    obtain ⟨C, R, rfl, rfl, hc, hr⟩ := grid_nat h
    have e := cntLL_len hc hr
    have := (grid_edges hc hr).2.2
    rw [show ((C : Nat) : Int).toNat = C from rfl, show ((R : Nat) : Int).toNat = R from rfl, e]
    omega
  next => simp

set_option maxHeartbeats 4000000 in
theorem specCountLeads_any (c r : Int) (w : World) : Calls Tryd.prog 21 #[.int .i64 c, .int .i64 r] w (GotInts w (cntLL c r)) := by
  unfold cntLL
  cases hB : gridOkB c r with
  | false =>
    have HB := Lib.hid hB
    rw [if_neg (by simp)]
    clear hB
    go_enter Tryd.func21, Tryd.ntmps21
    go_wp2_with fail
    refine (specGridOk_any _ _ _).mono ?_
    rintro e1 w1 ⟨rfl, rfl⟩
    rw [HB.out]
    go_wp2_with fail
    go_returns
    exact ⟨some ⟨w.heap.size, 0, none⟩, 0, rfl, OwnI.empty w (Nat.le_refl _), (Below.refl _ _).alloc (Nat.le_refl _) _⟩
  | true =>
    have HB := Lib.hid hB
    rw [if_pos rfl]
    obtain ⟨C, R, rfl, rfl, hc, hr⟩ := grid_nat hB
    rw [show ((C : Nat) : Int).toNat = C from rfl, show ((R : Nat) : Int).toNat = R from rfl]
    obtain ⟨-, E1, E13⟩ := grid_edges hc hr
    have HGE : Hid (∀ u, Calls Tryd.prog 13 #[.int .i64 C, .int .i64 R] u fun e w' => e = .returned (.int .i64 (gridE C R : Nat)) ∧ u = w') := fun u => by
      have h := specGridEdges_any C R u
      have e : gridEI C R = (gridE C R : Nat) := if_pos hB
      rw [e] at h; exact h
    have HC := Lib.hid (leads_row hc hr)
    have HLEN := Lib.hid (cntLL_len hc hr)
    have HL : Hid (∀ (s : Nat) (u : World), s < 2 ^ gridE C R → Calls Tryd.prog 12 #[.int .i64 (s : Nat), .int .i64 C, .int .i64 R] u fun e w' => e = .returned (.bool (leadsN C R s)) ∧ Below u.heap.size u w') := fun s u hs => by
      have h := specLeadsOk_any (s : Nat) C R u
      have e : leadsI (s : Nat) C R = leadsN C R s := by
        have h1 : inB (s : Nat) ((2 ^ gridE C R : Nat) : Int) = true := inB_of hs
        unfold leadsI edgeB
        rw [hB, show ((C : Nat) : Int).toNat = C from rfl, show ((R : Nat) : Int).toNat = R from rfl, h1]; rfl
      rw [e] at h; exact h
    generalize gridE C R = E at *
    generalize (tabL C R).map Int.ofNat = L at *
    have HPOP : Hid (∀ s, s < 2 ^ E → pop s ≤ E) := fun s hs => pop_lt E s (by omega) hs
    obtain ⟨P, hP, p1, p2, hp3, hp4⟩ := pow_named12 E13
    rw [hP] at HC HL HPOP
    obtain ⟨q, hq⟩ : ∃ q, leadsN C R = q := ⟨_, rfl⟩
    rw [hq] at HC
    have HL' : Hid (∀ (s : Nat) (u : World), s < P → Calls Tryd.prog 12 #[.int .i64 (s : Nat), .int .i64 C, .int .i64 R] u fun e w' => e = .returned (.bool (q s)) ∧ Below u.heap.size u w') := by rw [← hq]; exact HL.out
    have HM : Hid (∀ (s : Nat) (u : World), s < P → Calls Tryd.prog 49 #[.int .i64 (s : Nat)] u fun e w' => e = .returned (.int .i64 (pop s)) ∧ u = w') := fun s u hs => l1Many_any s u (by omega)
    have hwm : IntKind.i64.wrap ((E : Int) + 1) = ((E + 1 : Nat) : Int) := by rw [IntWalk.i64_in _ (by omega)]; omega
    obtain ⟨i0, hi0, hz0, hz1, hz2⟩ := info_parts int_info
    clear hB hP HL hq hc hr
    go_enter Tryd.func21, Tryd.ntmps21
    go_wp2_with fail
    refine (specGridOk_any _ _ _).mono ?_
    rintro e1 w1 ⟨rfl, rfl⟩
    rw [HB.out]
    go_wp2_with fail
    refine (HGE.out _).mono ?_
    rintro e2 w2 ⟨rfl, rfl⟩
    go_wp2_with (at_make; refine wpList_make_full _ rfl _ _ 31 rfl w.heap.size 3 i0 _ 1 Tryd.underlying31 hi0 hz0 hz1 .i64 .i64 (E + 1) (E + 1) (E + 1) rfl rfl rfl rfl (by rw [hz2]; omega) (by simp [maxLen]; omega) (Nat.le_refl _) ?_; intro w4 hown4 hg4)
    have hst : OwnI w4 w.heap.size (.slice (some ⟨w.heap.size, 0, none⟩) (E + 1) (E + 1)) (cntR q 0 (E + 1)) := by
      rw [cntR_zero]
      unfold OwnI; rw [List.length_replicate, ← madeCells_ints]; exact hown4
    have hb4 : Below w.heap.size w w4 := (Below.refl _ _).grown hg4 (Nat.le_refl _) (by simp)
    clear hown4 hg4 hz1 hz2 hi0 hz0
    generalize hg : w.heap.size = g at *
    go_wp2_with fail
    go_loopw [7] (fun t wr => ∃ s : Nat, s ≤ P ∧ t = .int .i64 (s : Nat) ∧ OwnI wr g (.slice (some ⟨g, 0, none⟩) (E + 1) (E + 1)) (cntR q s (E + 1)) ∧ Below g w wr) (fun t _ => P - (intOf t).toNat)
    case atStart => exact ⟨0, by omega, rfl, hst, hb4⟩
    case round =>
      clear hst hb4
      obtain ⟨s, hs, rfl, own, hb⟩ := hrel
      by_cases hlt : s < P
      · have hpl : Hid (pop s ≤ E) := HPOP.out s hlt
        have hcall := HL'.out s wr hlt
        have hM := fun u => HM.out s u hlt
        have HM' := Lib.hid hM
        clear hM
        cases hv : q s with
        | true =>
          rw [hv] at hcall
          go_wp2_with fail
          refine hcall.mono ?_
          clear hcall
          rintro e5 w5 ⟨rfl, hb5⟩
          have own5 := own.below hb5 own.lt
          have hbb := hb.trans (hb5.mono (by rw [← hg]; have := hb.size; omega))
          clear own hb hb5
          have hhit := Lib.hid (cntR_hit (m := E + 1) hv)
          have hpl := hpl.out
          have hcz := cntS_le q s (pop s)
          obtain ⟨x1, f1⟩ := own5.slot (k := pop s) (by omega)
          rw [cntR_getD q s (show pop s < E + 1 by omega)] at x1
          have hst := own5.store (pop s) ((cntS q s (pop s) : Nat) + 1)
          rw [hhit.out] at hst
          have HS := Lib.hid hst
          clear own5 hst hhit hv
          have wz : IntKind.i64.wrap (((cntS q s (pop s) : Nat) : Int) + 1) = ((cntS q s (pop s) : Nat) : Int) + 1 := IntWalk.i64_in _ (by omega)
          generalize cntS q s (pop s) = y at *
          generalize pop s = x at *
          have ix : (x : Int) < ((E : Int) + 1) := by omega
          go_wp2_with (go_at_call 49; refine (HM'.out _).mono ?_; rintro _ _ ⟨rfl, rfl⟩)
          go_roundw
          case rel => exact ⟨s + 1, by omega, by go_num, HS.out, hbb.setCell (by simp) _⟩
          case measure => simp [intOf]; omega
        | false =>
          rw [hv] at hcall
          rw [← cntR_miss (m := E + 1) hv] at own
          clear hv
          go_wp2_with fail
          refine hcall.mono ?_
          clear hcall
          rintro e5 w5 ⟨rfl, hb5⟩
          have own5 := own.below hb5 own.lt
          have hbb := hb.trans (hb5.mono (by rw [← hg]; have := hb.size; omega))
          go_wp2_with fail
          go_roundw
          case rel => exact ⟨s + 1, by omega, by go_num, own5, hbb⟩
          case measure => simp [intOf]; omega
      · obtain rfl : s = P := by omega
        rw [HC.out] at own
        go_wp2_with fail
        go_returns
        exact ⟨some ⟨g, 0, none⟩, E + 1, by rw [HLEN.out]; rfl, by rw [HLEN.out, hg]; exact own, by rw [hg]; exact hb⟩
end Go.Proofs.YtcmomghlepmogaaDoor
