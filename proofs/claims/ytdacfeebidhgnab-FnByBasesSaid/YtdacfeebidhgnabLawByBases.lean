/- The law FnByBases holds of every code: the program answers as the reference does, and the same for the edges in the other order. -/
import Derived.Test.YtdacfeebidhgnabBytes
import Derived.Test.YtdacfeebidhgnabVals
import Derived.Test.YtdacfeebidhgnabDraw11
import Derived.Test.YtdacfeebidhgnabImpl11d
import Derived.Deep.QuietTactic
import Derived.BigQuiet
import Derived.BigRegion
import Derived.Deep.RegionHeld3
import Derived.Deep.RegionLawGrows
import Derived.Deep.AppendLies
namespace Go.Proofs.Ytdacfeebidhgnab
open Go.RowKit
set_option maxRecDepth 100000

theorem rev_val {n : Int} {es : List (Int × Int)} {x y : Int} (h : roadOkB n es x y = true) : valI n es.reverse x y = valI n es x y ∧ roadOkB n es.reverse x y = true := by
  have h2 : netOkB n es = true ∧ inFour x = true ∧ inFour y = true := by simpa [roadOkB] using h
  obtain ⟨h1, h9, hev⟩ := netOkB_iff.1 h2.1
  have hr : netOkB n es.reverse = true := netOkB_iff.2 ⟨h1, by rw [List.length_reverse]; exact h9, fun e he => hev e (List.mem_reverse.1 he)⟩
  have hk : roadOkB n es.reverse x y = true := by unfold roadOkB; rw [hr, h2.2.1, h2.2.2]; rfl
  refine ⟨?_, hk⟩
  unfold valI
  rw [if_pos h, if_pos hk, show endsL es.reverse = (endsL es).reverse by unfold endsL; rw [List.map_reverse], valR_rev]
/-- The net, and the box of the one that is built from it. -/
structure RevAt (w1 u : World) (n : Int) (A : Option Addr) (c : Nat) (es : List (Int × Int)) (G : Nat) (B : Option Addr) (d : Nat) (rs : List (Int × Int)) : Prop where
  L : ArgNet w1 u n A c es
  n0 : u.cell? ⟨G, 0, none⟩ = some (.int .i64 n)
  n1 : u.cell? ⟨G, 1, none⟩ = some (.slice B rs.length d)
  f1 : u.frozen? ⟨G, 1, none⟩ = false
  own : OwnE u (G + 1) (.slice B rs.length d) rs
  o1 : w1.heap.size < G
  o2 : G < u.heap.size
section
variable {w1 u u' : World} {n : Int} {A B B' : Option Addr} {c d d' G : Nat} {es rs rs' : List (Int × Int)}
theorem RevAt.next (h : RevAt w1 u n A c es G B d rs) (hb : Below u.heap.size u u') : RevAt w1 u' n A c es G B d rs :=
  ⟨h.L.step hb h.L.lt, (hb.cell (p := ⟨G, 0, none⟩) h.o2).trans h.n0, (hb.cell (p := ⟨G, 1, none⟩) h.o2).trans h.n1, (hb.frozen (p := ⟨G, 1, none⟩) h.o2).trans h.f1, h.own.below hb h.own.lt, h.o1, Nat.lt_of_lt_of_le h.o2 hb.size⟩
theorem RevAt.drew (h : RevAt w1 u n A c es G B d rs) : RevAt w1 u.drew n A c es G B d rs := h.next ((Below.refl _ _).drew)
theorem RevAt.edges (h : RevAt w1 u n A c es G B d rs) (hb : Below (G + 1) u u') (hown : OwnE u' (G + 1) (.slice B' rs'.length d') rs') :
    RevAt w1 (u'.setCell ⟨G, 1, none⟩ (.slice B' rs'.length d')) n A c es G B' d' rs' := by
  have o1 := h.o1
  have o2 := h.o2
  have hs := hb.size
  have L1 := h.L.step hb (by omega)
  have q1 : u'.cell? ⟨G, 1, none⟩ = some (.slice B rs.length d) := (hb.cell (p := ⟨G, 1, none⟩) (by simp)).trans h.n1
  exact ⟨L1.step ((Below.refl G u').setCell (by simp) _) o1, (World.cell?_setCell_other _ _ _ _ (by simp)).trans ((hb.cell (p := ⟨G, 0, none⟩) (by simp)).trans h.n0),
    World.cell?_setCell_same _ _ _ q1, (World.frozen?_setCell ..).trans ((hb.frozen (p := ⟨G, 1, none⟩) (by simp)).trans h.f1),
    hown.far (fun k hk => by have := (World.ownsRow.lt hown k hk).1; simp; omega) _, o1, by simp [World.setCell]; omega⟩
theorem RevAt.start (L : ArgNet w1 u n A c es) (t : TypeId) : RevAt w1 (u.alloc (.cells #[.int .i64 n, .slice none 0 0] t)) n A c es u.heap.size none 0 [] :=
  ⟨L.step ((Below.refl u.heap.size u).alloc (Nat.le_refl _) _) L.lt, by rw [World.cell?_alloc_at _ _ _ _ rfl]; rfl, by rw [World.cell?_alloc_at _ _ _ _ rfl]; rfl, World.frozen?_alloc_at _ _ _ _ rfl, OwnE.nil _ _, L.lt, by simp⟩
end
theorem rev_more {es : List (Int × Int)} {m : Nat} (h : m < es.length) : (es.drop m).reverse = (es.drop (m + 1)).reverse ++ [es[m]] := by
  rw [List.drop_eq_getElem_cons h, List.reverse_cons]

set_option maxHeartbeats 8000000 in
theorem byBases_law (A : Option Addr) (cap l : Nat) (w : World) (hb : BytesIn w w.heap.size A l) (hc : l ≤ cap) :
    Calls Try.prog 4 #[.slice A l cap] w fun e w' => e = .returned (.bool true) ∧ Below w.heap.size w w' := by
  by_cases hbig : 1048576 < l
  · go_enter Try.func4, Try.ntmps4
    go_wp2
    go_returns
    exact ⟨rfl, Below.refl _ _⟩
  · have hl : l ≤ 1048576 := by omega
    clear hbig
    go_enter Try.func4, Try.ntmps4
    go_wp2_with fail
    refine (drawByBases_any _ _ _ _ hb hl hc).mono ?_
    rintro e1 w1 ⟨n, A1, c, es, x, y, rfl, own, n1, n7, hle, x1, x2, y1, y2, hb1⟩
    obtain ⟨i0, hi0, hz0, hz1, hz2⟩ := info_parts edge_info
    have L1 := ArgNet.start (cap := c) (n := n) 25 own.edges
    have HB := Lib.hid hb1
    have hle' : es.length ≤ 1048576 := by omega
    have s1 := Lib.hid hb1.size
    clear own hb hb1
    have HI : Hid (∀ u, EdgesIn u u.heap.size A1 es → Calls Try.prog 19 #[.agg #[.int .i64 n, .slice A1 es.length c], .int .i64 x, .int .i64 y] u fun e w' => e = .returned (.tuple #[.int .i64 (valI n es x y), .bool (roadOkB n es x y)]) ∧ Below u.heap.size u w') := fun u h => byBases_any n x y A1 c es u h hle'
    have HS : Hid (∀ u, EdgesIn u u.heap.size A1 es → Calls Try.prog 22 #[.agg #[.int .i64 n, .slice A1 es.length c], .int .i64 x, .int .i64 y] u fun e w' => e = .returned (.tuple #[.int .i64 (valI n es x y), .bool (roadOkB n es x y)]) ∧ Below u.heap.size u w') := fun u h => specByBases_any n x y A1 c es u h hle'
    cases hok : roadOkB n es x y with
    | false =>
      rw [hok, road_not hok] at HI HS
      have c0 := L1.c0
      have c1 := L1.c1
      go_wp2_with fail
      refine (HI.out _ L1.edges).mono ?_
      rintro e2 w2 ⟨rfl, hb2⟩
      have L2 := L1.step hb2 L1.lt
      clear hb2 L1 c0 c1
      have c0 := L2.c0
      have c1 := L2.c1
      go_wp2_with fail
      refine (HS.out _ L2.edges).mono ?_
      rintro e3 w3 ⟨rfl, hb3⟩
      have L3 := L2.step hb3 L2.lt
      clear hb3 L2 c0 c1
      have c0 := L3.c0
      have c1 := L3.c1
      go_wp2_with fail
      refine (alive_any _).mono ?_
      rintro e4 w4 ⟨rfl, hb4⟩
      have L4 := L3.step hb4 L3.lt
      go_wp2_with fail
      go_returns
      exact ⟨by first | rfl | simp, HB.out.trans (L4.below.mono s1.out)⟩
    | true =>
      have HR : Hid (∀ (B : Option Addr) (d : Nat) u, EdgesIn u u.heap.size B es.reverse → Calls Try.prog 19 #[.agg #[.int .i64 n, .slice B es.reverse.length d], .int .i64 x, .int .i64 y] u fun e w' => e = .returned (.tuple #[.int .i64 (valI n es x y), .bool true]) ∧ Below u.heap.size u w') := fun B d u h => by
        have := byBases_any n x y B d es.reverse u h (by rw [List.length_reverse]; exact hle')
        rw [(rev_val hok).1, (rev_val hok).2] at this
        exact this
      rw [hok] at HI HS
      generalize valI n es x y = V at *
      have c0 := L1.c0
      have c1 := L1.c1
      clear hok
      go_wp2_with fail
      refine (HI.out _ L1.edges).mono ?_
      rintro e2 w2 ⟨rfl, hb2⟩
      have L2 := L1.step hb2 L1.lt
      clear hb2 L1 c0 c1
      have c0 := L2.c0
      have c1 := L2.c1
      go_wp2_with fail
      refine (HS.out _ L2.edges).mono ?_
      rintro e3 w3 ⟨rfl, hb3⟩
      have L3 := L2.step hb3 L2.lt
      clear hb3 L2 c0 c1
      have c0 := L3.c0
      have c1 := L3.c1
      clear HI HS x1 x2 y1 y2 n1 n7
      have hpos : 0 < w3.heap.size := by have := L3.lt; omega
      have wl : IntKind.i64.wrap ((es.length : Int) - 1) = (es.length : Int) - 1 := IntWalk.i64_in _ (by omega)
      have R3 := RevAt.start L3 25
      have c0' := R3.L.c0
      have c1' := R3.L.c1
      go_wp2_with fail
      clear c0 c1 c0' c1' L3
      generalize w3.alloc (.cells #[.int .i64 n, .slice none 0 0] 25) = w4 at *
      generalize w3.heap.size = G at *
      go_loopw [11] (fun t wr => ∃ (i : Nat) (B : Option Addr) (d : Nat), i ≤ es.length ∧ t = .int .i64 ((i : Int) - 1) ∧ RevAt w1 wr n A1 c es G B d (es.drop i).reverse) (fun t _ => (intOf t + 1).toNat)
      case atStart => exact ⟨es.length, none, 0, Nat.le_refl _, rfl, by rw [List.drop_length]; exact R3⟩
      case round =>
        clear R3
        obtain ⟨i, B, d, hi, ht, R⟩ := hrel
        have o1 := R.o1
        have o2 := R.o2
        rcases i with _ | m
        · rw [show (((0 : Nat) : Int) - 1) = -1 from rfl] at ht
          subst ht
          have c0 := R.n0
          have c1 := R.n1
          have HREV : Hid ((es.drop 0).reverse = es.reverse) := by rw [List.drop_zero]; rfl
          rw [HREV.out] at R c1
          generalize es.reverse = rs at *
          clear HREV
          clear wl hi o1 o2 hle hle' hpos hi0 hz0 hz1 hz2
          go_wp2_with fail
          refine (HR.out B d _ R.own.edges).mono ?_
          rintro e5 w5 ⟨rfl, hb5⟩
          have R5 := R.next hb5
          go_wp2_with fail
          go_returns
          exact ⟨by first | rfl | simp, HB.out.trans (R5.L.below.mono s1.out)⟩
        · have hm : m < es.length := by omega
          rw [show (((m + 1 : Nat) : Int) - 1) = (m : Int) by omega] at ht
          subst ht
          have hmi : (m : Int) < es.length := by omega
          have hm0 : (0 : Int) ≤ (m : Int) := by omega
          have wm : IntKind.i64.wrap ((m : Int) - 1) = (m : Int) - 1 := IntWalk.i64_in _ (by omega)
          have HM := Lib.hid (rev_more hm)
          obtain ⟨b, off, hA, hbl, hx1, hx2⟩ := R.L.at_ m es[m] (List.getElem?_eq_getElem hm)
          subst hA
          generalize es[m] = ev at *
          obtain ⟨ea, eb⟩ := ev
          have hrl : (es.drop (m + 1)).reverse.length ≤ 1048576 := by simp; omega
          generalize hrs : (es.drop (m + 1)).reverse = rs at *
          clear hrs
          have c0 := R.L.c0
          have c1 := R.L.c1
          have n1 := R.n1
          have f1 := R.f1
          have OW := Lib.hid R.drew.own
          have RH := Lib.hid R.drew
          have hszd : wr.drew.heap.size = wr.heap.size := rfl
          go_wp2_with fail
          go_region_law (first
            | (refine step_append_lies _ (by rfl) (.tmp 64) (.tmp 70) 23 (by rfl) (G + 1) 33 i0 _ 2 16 Try.underlying23 hi0 hz0 hz1 hz2 rfl (by omega) (.slice B rs.length d) rs.length (flat rs) (by simp [Act.eval]) (World.ownsRow.alloc OW.out _)
                ⟨wr.drew.heap.size, 0, none⟩ 1 1 [.int .i64 ea, .int .i64 eb] (by simp [Act.eval]) (by rfl) (World.news_of_block (cs := #[.int .i64 ea, .int .i64 eb]) (t := 33) (fr := (0, 0)) (heap_alloc_new _ _)) (by simp [Value.oneCell']) (by omega) (by simp [maxLen]; omega) (by omega) (by simp; omega) _ rfl ?_; intro gg cc w5 hown5 hgrow hat hlt
               have hbel : Below (G + 1) wr.drew w5 := ((Below.refl (G + 1) wr.drew).alloc (by simp; omega) _).grown hgrow (by simp; omega) (fun j hj => (World.ownsRow.lt OW.out j hj).1)
               have k1 := (hbel.cell (p := ⟨G, 1, none⟩) (by simp)).trans RH.out.n1
               have k3 := (hbel.frozen (p := ⟨G, 1, none⟩) (by simp)).trans RH.out.f1
               have HBL := Lib.hid hbel
               clear hbel)
            )
          all_goals
            have RN := RH.out.edges HBL.out (rs' := rs ++ [(ea, eb)]) (by unfold OwnE; rw [flat_append, List.length_append]; exact hown5)
            rw [List.length_append] at RN
            go_wp2_with fail
            go_roundw
            case rel => exact ⟨m, _, _, by omega, by go_num, by rw [HM.out]; exact RN⟩
            case measure => first | (simp [intOf]; done) | (simp [intOf]; omega)

namespace fnByBases
open Go.ChangeShapes Go.WideShapes Go.ChangeAt Go.RowKit Go.Deep Go.Joins
set_option linter.unusedVariables false
set_option maxRecDepth 100000 in
theorem lifted (os : Os) (started : os.Started) (H : Type) (enc : TypeId × Value → H) :
    ReturnsInHanded {} Try.checked os 4 .any (Rows.fnByBasesSpec.pre6 enc Try.prog Try.f4 Rows.fnByBasesRow.domain false) (Rows.fnByBasesSpec.post enc Try.prog Try.f4 false true false false) := by
  refine returnsInHanded_of_change (C := Try.checked) own started (by kernel_rfl) Try.func4
    (ChangeSpec.witness6 (enc := enc) (C := Try.checked) false ⟨#[], #[.slice none 0 0], []⟩ 8 (by kernel_rfl) (by kernel_rfl) (by kernel_rfl) (by kernel_rfl)) ?_
  intro W base args ds gs before hval0 hW hcnd _
  have hval : ∀ (j : Nat) t v, Try.f4.params[j]? = some t → args[j]? = some v → Value.okWide Try.prog W .any base t v := hval0
  have hW' := hW
  obtain ⟨p, q, hA0, hV, rfl, hfz, hnd⟩ := hW
  have hA : DataW.TrodAll enc Try.prog W 0 (fun _ => true) true Try.f4.params.toList args.toList ds p := hA0
  rw [Try.params4] at hA hval
  obtain ⟨v0, vs0, d0, ds0, p0, q0, hargs, rfl, rfl, h0, r0⟩ := trodAll_cons hA
  obtain ⟨rfl, rfl, rfl⟩ := trodAll_nil r0
  obtain rfl : args = #[v0] := by cases args; simp_all
  obtain ⟨rfl, rfl⟩ := trodVars_none hV
  have k0 := h0
  have lt0 : ∀ x ∈ p0, x.block < W.heap.size := by obtain ⟨m, hm⟩ := k0; exact DataW.trod_lt m _ _ _ hm
  obtain ⟨A0, c0, bs0, rfl, hb0, hl0⟩ := open_bytes (hval 0 22 v0 rfl rfl) h0
  clear hA0 hval0
  refine (byBases_law A0 c0 bs0 W hb0 hl0).mono fun e W' ⟨he, bel⟩ => ?_
  subst he
  exact ⟨_, rfl, _, _, _, [], _, [], hW', trodAll_mk1 (shut_bool Try.underlying4 _), (trodAll_cons_mk (Below.trod laidOut (by kernel_rfl) (of_decide_eq_true (by kernel_rfl)) k0 bel lt0) trodAll_mk0), rfl, bel.frame _, fun h => by cases h⟩

theorem holds : Rows.FnByBasesSaid :=
  OpenClaim.holds_of_wide 4 Try.f4 rfl rfl rfl rfl rfl rfl rfl ⟨rfl, rfl, rfl, rfl, rfl⟩ rfl rfl rfl rfl rfl (by kernel_rfl) Try.func4 (by kernel_rfl)
    (of_decide_eq_true (by kernel_rfl)) (by unfold Func.isWrapper; first | (rw [if_pos (by decide +kernel)]; kernel_rfl) | (rw [if_neg (by decide +kernel)]; exact ⟨rfl, rfl⟩))
    (fun os started H enc _ => lifted os started H enc)
end fnByBases
end Go.Proofs.Ytdacfeebidhgnab
