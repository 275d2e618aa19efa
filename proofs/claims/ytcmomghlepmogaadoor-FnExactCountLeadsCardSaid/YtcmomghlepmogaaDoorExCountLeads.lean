/- The exact law of CountLeads holds: the program answers as the reference does, and shares no memory with another call's answer. -/
import Derived.Test.YtcmomghlepmogaaDoorDoor
import Derived.Test.YtcmomghlepmogaaDoorTie
import Derived.Test.YtcmomghlepmogaaDoorCards
import Derived.Test.YtcmomghlepmogaaDoorIs7
import Derived.Test.YtcmomghlepmogaaDoorRowEq
import Derived.Test.YtcmomghlepmogaaDoorObj
namespace Go.Proofs.YtcmomghlepmogaaDoor
open Go.RowKit
set_option maxRecDepth 100000

set_option maxHeartbeats 4000000 in
theorem exCountLeads_walk (a0 a1 : Int) (w : World) (_w0 : (Lit.int .i64 a0).wf = true) (_w1 : (Lit.int .i64 a1).wf = true) (HLD : LaidG w) :
    Calls Tryd.prog 8 #[.int .i64 a0, .int .i64 a1] w fun e w' => e = .returned (.bool true) ∧ Below w.heap.size w w' := by
  have HS0 : ∀ u, Calls Tryd.prog 21 #[.int .i64 a0, .int .i64 a1] u (GotInts u (cntLL a0 a1)) := fun u => specCountLeads_any a0 a1 u
  have HI0 : ∀ u, LaidG u → Calls Tryd.prog 19 #[.int .i64 a0, .int .i64 a1] u (GotInts u (cntLL a0 a1)) := fun u hu => countLeads_any a0 a1 u hu
  have hx := cntLL_le a0 a1
  generalize cntLL a0 a1 = xs at *
  have hx' : xs.length ≤ 1048576 := by omega
  have HS := Lib.hid HS0
  have HI := Lib.hid HI0
  clear HS0 HI0
  go_enter Tryd.func8, Tryd.ntmps8
  go_wp2_with fail
  refine (HS.out _).mono ?_
  rintro e1 w1 ⟨A1, k1, rfl, own1, hb1⟩
  have O1 := RowAt.start own1
  go_wp2_with fail
  refine (HI.out _ (HLD.on (by assumption))).mono ?_
  rintro e2 w2 ⟨A2, k2, rfl, own2, hb2⟩
  have O2 := O1.next hb2
  have G2 := RowAt.start own2
  have BB2 := hb1.trans (hb2.mono hb1.size)
  have s1 := hb1.size
  have s12 := hb2.size
  clear own1 own2 O1 hb2
  generalize h1 : w1.heap.size = b1 at *
  generalize h2 : w2.heap.size = b2 at *
  go_wp2_with fail
  refine (eqIntS_self _ _ _ _ _ _ _ G2.ints O2.ints rfl hx').mono ?_
  rintro e3 w3 ⟨rfl, hb3⟩
  have O3 := O2.next hb3
  have G3 := G2.next hb3
  have BB3 := BB2.trans (hb3.mono BB2.size)
  clear hb3 O2 G2 BB2 h2
  go_wp2_with fail
  refine (markIntS_any _ _ _ _ _ _ _ G3.own hx' (by omega) (by omega)).mono ?_
  rintro e4 w4 ⟨rfl, own4, hg4⟩
  have gr := G3.row
  have gg := G3.own.ge
  have O4 := O3.grown hg4 (fun j hj => by have := gg j hj; omega)
  have G4 : RowAt w4 b1 b2 (.slice A2 xs.length k2) (marksI 1 xs.length) := ⟨own4, gr, Nat.le_trans G3.le hg4.size⟩
  have BB4 := BB3.grown hg4 BB3.size (fun j hj => by have := gg j hj; omega)
  clear O3 G3 BB3 own4 hg4
  go_wp2_with fail
  refine (heldIntS_any _ _ _ _ _ G4.ints hx' (by omega) (by omega)).mono ?_
  rintro e5 w5 ⟨rfl, rfl⟩
  go_wp2_with fail
  refine (HI.out _ (HLD.on (by assumption))).mono ?_
  rintro e6 w6 ⟨A6, k6, rfl, own6, hb6⟩
  have O6 := O4.next hb6
  have G6 := G4.next hb6
  have BB6 := BB4.trans (hb6.mono BB4.size)
  clear O4 G4 BB4 hb6
  go_wp2_with fail
  refine (eqIntS_self _ _ _ _ _ _ _ own6.ints O6.ints rfl hx').mono ?_
  rintro e7 w7 ⟨rfl, hb7⟩
  have G7 := G6.next hb7
  have BB7 := BB6.trans (hb7.mono BB6.size)
  clear O6 G6 BB6 hb7 own6
  go_wp2_with fail
  refine (heldIntS_any _ _ _ _ _ G7.ints hx' (by omega) (by omega)).mono ?_
  rintro e8 w8 ⟨rfl, rfl⟩
  go_wp2_with fail
  go_returns
  exact ⟨rfl, BB7⟩

namespace fnExactCountLeads
open Go.ChangeShapes Go.WideShapes Go.ChangeAt Go.RowKit Go.Deep Go.Joins
set_option linter.unusedVariables false
set_option maxRecDepth 100000 in
theorem lifted (os : Os) (started : os.Started) (H : Type) (enc : TypeId × Value → H) :
    ReturnsInHanded {} Tryd.checked os 8 .any (fun w args => (Rows.fnExactCountLeadsSpec.pre enc Tryd.prog Tryd.f8 Rows.fnExactCountLeadsRow.domain false w args ∧ laidMetH Tryd.prog Rows.fnExactCountLeadsRow.laid w) ∧ sizedMet enc Tryd.prog Tryd.f8 (OpenSpec.ofChange Rows.fnExactCountLeadsSpec) false w args)
      (Rows.fnExactCountLeadsSpec.post enc Tryd.prog Tryd.f8 false true false false) := by
  refine returnsInHanded_of_change_and (C := Tryd.checked) (X := fun w _ => laidMetH Tryd.prog Rows.fnExactCountLeadsRow.laid w) (fun _ _ _ hh h => h.of_heap hh) own started (by kernel_rfl) Tryd.func8
    (ChangeSpec.witness_shaped (enc := enc) (C := Tryd.checked) (os := os) (X := fun w _ => laidMetH Tryd.prog Rows.fnExactCountLeadsRow.laid w) false (World.laidAll Tryd.prog os Rows.fnExactCountLeadsRow.laid) #[.int .i64 0, .int .i64 0] 8 (World.laidAll_os _ _ _)
      (World.shaped_of_ZipB (by kernel_rfl) (by kernel_rfl)) (by kernel_rfl) (by kernel_rfl) (by kernel_rfl)
      (by rw [MakeChecks.laidMetH_plain _ _ _ (by kernel_rfl)]; exact laidMet_laidAll _ (by kernel_rfl) (by kernel_rfl))) ?_
  intro W base args ds gs before hval0 hW hcnd _ hL _
  rw [MakeChecks.laidMetH_plain _ _ _ (by kernel_rfl)] at hL
  have hM := hL
  have HLD : LaidG W := ⟨laidS_of hM (by simp [Rows.fnExactCountLeadsRow]), laidZ_of hM (by simp [Rows.fnExactCountLeadsRow])⟩
  have hval : ∀ (j : Nat) t v, Tryd.f8.params[j]? = some t → args[j]? = some v → Value.okWide Tryd.prog W .any base t v := hval0
  have hW' := hW
  obtain ⟨p, q, hA0, hV, rfl, hfz, hnd⟩ := hW
  have hA : DataW.TrodAll enc Tryd.prog W 0 (fun _ => true) true Tryd.f8.params.toList args.toList ds p := hA0
  rw [Tryd.params8] at hA hval
  obtain ⟨v0, vs0, d0, ds0, p0, q0, hargs, rfl, rfl, h0, r0⟩ := trodAll_cons hA
  obtain ⟨v1, vs1, d1, ds1, p1, q1, rfl, rfl, rfl, h1, r1⟩ := trodAll_cons r0
  obtain ⟨rfl, rfl, rfl⟩ := trodAll_nil r1
  obtain rfl : args = #[v0, v1] := by cases args; simp_all
  obtain ⟨g1, rfl⟩ : ∃ g1, gs = [g1] := by obtain ⟨_, _, _, _, d, _, h, _⟩ := trodVars_one hV; exact ⟨d, h⟩
  obtain ⟨a0, rfl, rfl, rfl, w0⟩ := open_int Tryd.underlying3 (hval 0 3 v0 rfl rfl) h0
  obtain ⟨a1, rfl, rfl, rfl, w1⟩ := open_int Tryd.underlying3 (hval 1 3 v1 rfl rfl) h1
  clear hA0 hval0
  refine (exCountLeads_walk a0 a1 W w0 w1 HLD).mono fun e W' ⟨he, bel⟩ => ?_
  subst he
  exact ⟨_, rfl, _, _, _, _, _, _, hW', trodAll_mk1 (shut_bool Tryd.underlying4 _), (trodAll_cons_mk (shut_int Tryd.underlying3 w0) (trodAll_cons_mk (shut_int Tryd.underlying3 w1) trodAll_mk0)), Below.trodVars laidOut bel (by kernel_rfl) hV, bel.frame _, fun h => by cases h⟩

theorem row_holds : Rows.FnExactCountLeadsSaid :=
  OpenClaim.holds_of_wide 8 Tryd.f8 rfl rfl rfl rfl rfl rfl rfl ⟨rfl, rfl, rfl, rfl, rfl⟩ rfl rfl rfl rfl rfl (by kernel_rfl) Tryd.func8 (by kernel_rfl)
    (of_decide_eq_true (by kernel_rfl)) (by unfold Func.isWrapper; first | (rw [if_pos (by decide +kernel)]; kernel_rfl) | (rw [if_neg (by decide +kernel)]; exact ⟨rfl, rfl⟩))
    (fun os started H enc _ => lifted os started H enc)
theorem holds : Rows.FnExactCountLeadsCardSaid :=
  Claim7.holds_tied_plain_at .later [] Rows.fnExactCountLeadsCard.laidKinds true Rows.fnExactCountLeadsCard.stood.harness false row_holds (fun _ h => by cases h) (by kernel_rfl) (fun _ h => by cases h) fnExactCountLeads_row_tie rfl ⟨rfl, rfl⟩ (by kernel_rfl) rfl
    (fun f fn hf hfn => by
      obtain rfl : f = 8 := Option.some.inj ((show Tryd.prog.funcNamed "loop.example/failingnets/laws.FnExactCountLeads" = some 8 by kernel_rfl).symm.trans hf) |>.symm
      obtain rfl : fn = Tryd.f8 := (Option.some.inj (Tryd.func8.symm.trans hfn)).symm
      exact ⟨by kernel_rfl, fun j t ht => by
        rw [Tryd.params8] at ht
        have hm : t ∈ [3] := by simpa using Array.mem_of_getElem? ht
        have hall : ([3].all fun u => !Tryd.prog.wantsStandIn u) = true := by kernel_rfl
        exact (show Tryd.prog.wantsStandIn t = false by simpa using List.all_eq_true.1 hall t hm)⟩)
    (by kernel_rfl)
end fnExactCountLeads

end Go.Proofs.YtcmomghlepmogaaDoor
