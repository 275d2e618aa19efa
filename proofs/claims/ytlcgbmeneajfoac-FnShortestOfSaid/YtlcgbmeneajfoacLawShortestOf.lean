/- The law FnShortestOf holds of every code: it is less than the nodes; it is the least number of edges with which some state joins both. -/
import Derived.Test.YtlcgbmeneajfoacBytes
import Derived.Test.YtlcgbmeneajfoacDrawT4
import Derived.Test.YtlcgbmeneajfoacFacts4
import Derived.Test.YtlcgbmeneajfoacSpec4b
import Derived.Test.YtlcgbmeneajfoacImplCnt
import Derived.Test.YtlcgbmeneajfoacObj
namespace Go.Proofs.Ytlcgbmeneajfoac
open Go.RowKit
set_option maxRecDepth 100000

set_option maxHeartbeats 4000000 in
theorem shortestOf_law (A : Option Addr) (cap l : Nat) (w : World) (hb : BytesIn w w.heap.size A l) (hc : l ≤ cap) :
    Calls Try.prog 4 #[.slice A l cap] w fun e w' => e = .returned (.bool true) ∧ Below w.heap.size w w' := by
  by_cases hbig : 1048576 < l
  · go_enter Try.func4, Try.ntmps4
    go_wp2
    go_returns
    exact ⟨rfl, Below.refl _ _⟩
  · have hl : l ≤ 1048576 := by omega
    clear hbig
    go_enter Try.func4, Try.ntmps4
    go_wp2_with fail
    refine (drawShortestOf_any _ _ _ _ hb hl hc).mono ?_
    rintro e1 w1 ⟨n, A1, c, es, a, b, rfl, own, n1, n7, hle, a1, a2, b1, b2, hb1⟩
    have L1 := ArgNet.start (cap := c) (n := n) 30 own.edges
    have HB := Lib.hid hb1
    have hle' : es.length ≤ 1048576 := by omega
    have s1 := hb1.size
    clear own hb hb1
    have HI : Hid (∀ u, EdgesIn u u.heap.size A1 es → Calls Try.prog 22 #[.agg #[.int .i64 n, .slice A1 es.length c], .int .i64 a, .int .i64 b] u fun e w' => e = .returned (.int .i64 (minAll (pathsN n es a b))) ∧ Below u.heap.size u w') := fun u h => shortestOf_any n a b A1 c es u h hle'
    have HS : Hid (∀ u, EdgesIn u u.heap.size A1 es → Calls Try.prog 23 #[.agg #[.int .i64 n, .slice A1 es.length c], .int .i64 a, .int .i64 b] u fun e w' => e = .returned (.int .i64 (minAll (pathsN n es a b))) ∧ Below u.heap.size u w') := fun u h => specShortestOf_any n a b A1 c es u h hle'
    have hmx : (if n < 0 then (0 : Int) else n) = n := if_neg (by omega)
    have hmx2 : (if (0 : Int) < n then n else (0 : Int)) = n := if_pos (by omega)
    by_cases hok : joinOkB n es a b = true
    · have hlF : (joiningL n es a b).length = es.length + 1 := by unfold joiningL; rw [if_pos hok, rowL_length]
      have hF : ∀ k, k < es.length + 1 → (joiningL n es a b).getD k 0 = (joinC es a.toNat b.toNat k : Nat) := fun k hk => by unfold joiningL; rw [if_pos hok, rowL_getD _ hk]
      have hlaw : ∀ v, LeastAt (joinC es a.toNat b.toNat) es.length 0 v → minAll (pathsN n es a b) = v ∧ v < n := fun v => short_law hok
      have h9 := joinOk_nine hok
      have HC : Hid (∀ u, EdgesIn u u.heap.size A1 es → Calls Try.prog 24 #[.agg #[.int .i64 n, .slice A1 es.length c], .int .i64 a, .int .i64 b] u (GotRow u es.length (joiningL n es a b))) := fun u h => (joiningCounts_any n a b A1 c es u h hle').mono fun _ _ => GotInts.row hlF
      generalize joiningL n es a b = fs at *
      generalize joinC es a.toNat b.toNat = C at *
      generalize minAll (pathsN n es a b) = m at *
      have HL := Lib.hid hlaw
      have HF := Lib.hid hF
      clear hlF hF hlaw hok
      have c0 := L1.c0
      have c1 := L1.c1
      go_wp2_with fail
      refine (HI.out _ L1.edges).mono ?_
      rintro e2 w2 ⟨rfl, hb2⟩
      have L2 := L1.step hb2 L1.lt
      clear hb2 L1 c0 c1
      have c0 := L2.c0
      have c1 := L2.c1
      go_wp2_with fail
      refine (HS.out _ L2.edges).mono ?_
      rintro e3 w3 ⟨rfl, hb3⟩
      have L3 := L2.step hb3 L2.lt
      clear hb3 L2 c0 c1
      have c0 := L3.c0
      have c1 := L3.c1
      go_wp2_with fail
      refine (HC.out _ L3.edges).mono ?_
      rintro e4 w4 ⟨g4, c4, rfl, own4, hb4⟩
      have L4 := L3.step hb4 L3.lt
      have F4 := RowAt.start own4
      have s4 := L3.lt
      have B4 := L4.below
      have k0 := L4.c0
      clear hb4 L3 c0 c1 own4
      have wl : IntKind.i64.wrap ((es.length : Int) + 1 - 1) = (es.length : Int) := by rw [IntWalk.i64_in _ (by omega)]; omega
      go_wp2_with fail
      go_loopw [7, 9] (fun v t wr => ∃ (k : Nat) (x : Int), k ≤ es.length + 1 ∧ t = .int .i64 ((k : Int) - 1) ∧ v = .int .i64 x ∧ LeastAt C es.length k x ∧ wr = w4) (fun _ t _ => (intOf t + 1).toNat)
      case atStart => exact ⟨es.length + 1, -1, by omega, by first | rfl | (congr 1; omega), rfl, LeastAt.start _ _, rfl⟩
      case round =>
        obtain ⟨k, x, hk, rfl, rfl, hx, rfl⟩ := hrel
        cases k with
        | zero =>
          obtain ⟨h1, h2⟩ := HL.out x hx
          have hxl := hx.low
          subst h1
          clear hx
          have d1 : (0 : Int) - 1 < 0 := by omega
          go_wp2_with fail
          refine (alive_any _).mono ?_
          rintro e5 w5 ⟨rfl, hb5⟩
          have L5 := L4.step hb5 L4.lt
          go_wp2_with fail
          go_returns
          exact ⟨rfl, HB.out.trans (L5.below.mono s1)⟩
        | succ k =>
          have e1 : ((k + 1 : Nat) : Int) - 1 = (k : Int) := by omega
          have cell := F4.cell (show k < es.length + 1 by omega)
          rw [HF.out k (by omega)] at cell
          have wk : IntKind.i64.wrap ((k : Int) - 1) = (k : Int) - 1 := IntWalk.i64_in _ (by omega)
          have i1 : (k : Int) < (es.length : Int) + 1 := by omega
          rw [e1]
          by_cases hpos : 0 < C k
          · have hn : LeastAt C es.length k k := LeastAt.hit (by omega) hpos
            have HN := Lib.hid hn
            generalize C k = y at *
            have d1 : (0 : Int) < (y : Int) := by omega
            clear hn hx e1
            go_wp2_with fail
            go_roundw
            case rel => exact ⟨k, k, by omega, rfl, rfl, HN.out, by first | rfl | trivial⟩
            case measure => simp [intOf]; try omega
          · have hn : LeastAt C es.length k x := hx.miss (by omega)
            have HN := Lib.hid hn
            have hz : C k = 0 := by omega
            rw [hz] at cell
            clear hn hx hz hpos e1
            go_wp2_with fail
            go_roundw
            case rel => exact ⟨k, x, by omega, rfl, rfl, HN.out, by first | rfl | trivial⟩
            case measure => simp [intOf]; try omega
    · rw [short_not hok] at HI HS
      have HC : Hid (∀ u, EdgesIn u u.heap.size A1 es → Calls Try.prog 24 #[.agg #[.int .i64 n, .slice A1 es.length c], .int .i64 a, .int .i64 b] u (GotInts u [])) := fun u h => by
        have := joiningCounts_any n a b A1 c es u h hle'
        unfold joiningL at this; rw [if_neg hok] at this; exact this
      clear hok
      have c0 := L1.c0
      have c1 := L1.c1
      go_wp2_with fail
      refine (HI.out _ L1.edges).mono ?_
      rintro e2 w2 ⟨rfl, hb2⟩
      have L2 := L1.step hb2 L1.lt
      clear hb2 L1 c0 c1
      have c0 := L2.c0
      have c1 := L2.c1
      go_wp2_with fail
      refine (HS.out _ L2.edges).mono ?_
      rintro e3 w3 ⟨rfl, hb3⟩
      have L3 := L2.step hb3 L2.lt
      clear hb3 L2 c0 c1
      have c0 := L3.c0
      have c1 := L3.c1
      go_wp2_with fail
      refine (HC.out _ L3.edges).mono ?_
      rintro e4 w4 ⟨g4, c4, rfl, own4, hb4⟩
      have L4 := L3.step hb4 L3.lt
      have k0 := L4.c0
      have d1 : (-1 : Int) < n := by omega
      clear hb4 L3 c0 c1 own4
      go_wp2_with fail
      go_loopw [7, 9] (fun v t wr => v = .int .i64 (-1) ∧ t = .int .i64 (-1) ∧ wr = w4) (fun _ _ _ => 0)
      case atStart => exact ⟨rfl, rfl, rfl⟩
      case round =>
        obtain ⟨rfl, rfl, rfl⟩ := hrel
        go_wp2_with fail
        refine (alive_any _).mono ?_
        rintro e5 w5 ⟨rfl, hb5⟩
        have L5 := L4.step hb5 L4.lt
        go_wp2_with fail
        go_returns
        exact ⟨rfl, HB.out.trans (L5.below.mono s1)⟩

namespace fnShortestOf
open Go.ChangeShapes Go.WideShapes Go.ChangeAt Go.RowKit Go.Deep Go.Joins
set_option linter.unusedVariables false
set_option maxRecDepth 100000 in
theorem lifted (os : Os) (started : os.Started) (H : Type) (enc : TypeId × Value → H) :
    ReturnsInHanded {} Try.checked os 4 .any (Rows.fnShortestOfSpec.pre6 enc Try.prog Try.f4 Rows.fnShortestOfRow.domain false) (Rows.fnShortestOfSpec.post enc Try.prog Try.f4 false true false false) := by
  refine returnsInHanded_of_change (C := Try.checked) own started (by kernel_rfl) Try.func4
    (ChangeSpec.witness6 (enc := enc) (C := Try.checked) false ⟨#[], #[.slice none 0 0], []⟩ 8 (by kernel_rfl) (by kernel_rfl) (by kernel_rfl) (by kernel_rfl)) ?_
  intro W base args ds gs before hval0 hW hcnd _
  have hval : ∀ (j : Nat) t v, Try.f4.params[j]? = some t → args[j]? = some v → Value.okWide Try.prog W .any base t v := hval0
  have hW' := hW
  obtain ⟨p, q, hA0, hV, rfl, hfz, hnd⟩ := hW
  have hA : DataW.TrodAll enc Try.prog W 0 (fun _ => true) true Try.f4.params.toList args.toList ds p := hA0
  rw [Try.params4] at hA hval
  obtain ⟨v0, vs0, d0, ds0, p0, q0, hargs, rfl, rfl, h0, r0⟩ := trodAll_cons hA
  obtain ⟨rfl, rfl, rfl⟩ := trodAll_nil r0
  obtain rfl : args = #[v0] := by cases args; simp_all
  obtain ⟨rfl, rfl⟩ := trodVars_none hV
  have k0 := h0
  have lt0 : ∀ x ∈ p0, x.block < W.heap.size := by obtain ⟨m, hm⟩ := k0; exact DataW.trod_lt m _ _ _ hm
  obtain ⟨A0, c0, bs0, rfl, hb0, hl0⟩ := open_bytes (hval 0 37 v0 rfl rfl) h0
  clear hA0 hval0
  refine (shortestOf_law A0 c0 bs0 W hb0 hl0).mono fun e W' ⟨he, bel⟩ => ?_
  subst he
  exact ⟨_, rfl, _, _, _, [], _, [], hW', trodAll_mk1 (shut_bool Try.underlying4 _), (trodAll_cons_mk (Below.trod laidOut (by kernel_rfl) (of_decide_eq_true (by kernel_rfl)) k0 bel lt0) trodAll_mk0), rfl, bel.frame _, fun h => by cases h⟩

theorem holds : Rows.FnShortestOfSaid :=
  OpenClaim.holds_of_wide 4 Try.f4 rfl rfl rfl rfl rfl rfl rfl ⟨rfl, rfl, rfl, rfl, rfl⟩ rfl rfl rfl rfl rfl (by kernel_rfl) Try.func4 (by kernel_rfl)
    (of_decide_eq_true (by kernel_rfl)) (by unfold Func.isWrapper; first | (rw [if_pos (by decide +kernel)]; kernel_rfl) | (rw [if_neg (by decide +kernel)]; exact ⟨rfl, rfl⟩))
    (fun os started H enc _ => lifted os started H enc)
end fnShortestOf

end Go.Proofs.Ytlcgbmeneajfoac
