/- The law FnHeavyOf holds of every code: weights add up. -/
import Derived.Test.YtmdmmebekicpkabBytes
import Derived.Test.YtmdmmebekicpkabDrawHeavy
import Derived.Test.YtmdmmebekicpkabWeights
import Derived.Test.YtmdmmebekicpkabClass
namespace Go.Proofs.Ytmdmmebekicpkab
open Go.RowKit
set_option maxRecDepth 100000

theorem wrap_one {P : Nat} (h1 : 1 ≤ P) (h2 : P ≤ 8192) : IntKind.i64.wrap ((P : Int) - 1) = ((P - 1 : Nat) : Int) := by rw [IntWalk.i64_in _ (by omega)]; omega
theorem wrap_rest {P q : Nat} (h1 : q < P) (h2 : P ≤ 8192) : IntKind.i64.wrap (((P - 1 : Nat) : Int) - (q : Int)) = ((P - 1 - q : Nat) : Int) := by rw [IntWalk.i64_in _ (by omega)]; omega
theorem wrap_two {x y z : Int} (h : z + y = x) (h1 : 0 ≤ z ∧ z ≤ 891) (h2 : 0 ≤ y ∧ y ≤ 891) : IntKind.i64.wrap (z + y) = x := by rw [← h]; exact IntWalk.i64_in _ (by omega)
theorem heavy_neg {n : Int} {es : List (Int × Int)} {ws : List Int} {s : Int} (h : heavyI n es ws s < 0) : heavyI n es ws s = -1 := by
  unfold heavyI at *
  split at h
  · rename_i k
    unfold heavyOk at k
    rw [Bool.and_eq_true] at k
    have := (sumHv_le (hvF_le (weightsB_parts k.1).2.2.1 s.toNat) ws.length).1
    omega
  · rename_i k; rw [if_neg k]
theorem heavy_ok {n : Int} {es : List (Int × Int)} {ws : List Int} {s : Int} (h : 0 ≤ heavyI n es ws s) : heavyOk n es ws s = true := by
  unfold heavyI at h
  split at h
  · assumption
  · omega
theorem sumHv_add {f g h : Nat → Int} : ∀ k, (∀ i, i < k → f i + g i = h i) → sumHv f k + sumHv g k = sumHv h k
  | 0, _ => rfl
  | k + 1, hh => by
    have h1 := sumHv_add k fun i hi => hh i (by omega)
    have h2 := hh k (by omega)
    simp only [sumHv]; omega
theorem sumHv_zero : ∀ k, sumHv (fun _ => 0) k = 0
  | 0 => rfl
  | k + 1 => by simp only [sumHv]; rw [sumHv_zero k]; rfl
/-- Both parts are all. -/
theorem heavy_parts {n : Int} {es : List (Int × Int)} {ws : List Int} {q : Nat} (h : heavyOk n es ws (q : Nat) = true) :
    q < 2 ^ es.length ∧ es.length ≤ 9 ∧ (0 ≤ heavyI n es ws (q : Nat) ∧ heavyI n es ws (q : Nat) ≤ 891) ∧ (0 ≤ heavyI n es ws ((2 ^ es.length - 1 - q : Nat) : Nat) ∧ heavyI n es ws ((2 ^ es.length - 1 - q : Nat) : Nat) ≤ 891) ∧
    heavyI n es ws (q : Nat) + heavyI n es ws ((2 ^ es.length - 1 - q : Nat) : Nat) = heavyI n es ws ((2 ^ es.length - 1 : Nat) : Nat) ∧ heavyI n es ws 0 = 0 := by
  unfold heavyOk at h
  rw [Bool.and_eq_true] at h
  obtain ⟨hn, hml, hall, hm9⟩ := weightsB_parts h.1
  obtain ⟨m, e, hm, -⟩ := state_nat h.2
  obtain rfl : q = m := by omega
  have h9 : es.length ≤ 9 := by omega
  have hpos : 0 < 2 ^ es.length := Nat.pow_pos (by omega)
  have hv : ∀ s : Nat, s < 2 ^ es.length → heavyI n es ws (s : Nat) = sumHv (hvF ws s) ws.length := fun s hs => by
    unfold heavyI heavyOk
    rw [h.1, state_of hn hs]; rfl
  have hb : ∀ s : Nat, s < 2 ^ es.length → 0 ≤ heavyI n es ws (s : Nat) ∧ heavyI n es ws (s : Nat) ≤ 891 := fun s hs => by
    rw [hv s hs]
    have := sumHv_le (hvF_le hall s) ws.length
    omega
  have hr : 2 ^ es.length - 1 - q < 2 ^ es.length := rest_lt es.length q
  have hA : 2 ^ es.length - 1 < 2 ^ es.length := Nat.sub_lt hpos (by omega)
  refine ⟨hm, h9, hb q hm, hb _ hr, ?_, ?_⟩
  · rw [hv q hm, hv _ hr, hv _ hA]
    refine sumHv_add _ fun i hi => ?_
    have e1 : (2 ^ es.length - 1 - q).testBit i = (decide (i < es.length) && !q.testBit i) := rest_bit hm i
    unfold hvF
    rw [e1, Nat.testBit_two_pow_sub_one, decide_eq_true (show i < es.length by omega)]
    cases q.testBit i <;> simp
  · have := hv 0 hpos
    rw [show ((0 : Nat) : Int) = 0 from rfl] at this
    rw [this]
    have e2 : hvF ws 0 = fun _ => 0 := by funext k; simp [hvF]
    rw [e2]; exact sumHv_zero _

set_option maxHeartbeats 8000000 in
theorem heavyOf_law (A : Option Addr) (cap l : Nat) (w : World) (hb : BytesIn w w.heap.size A l) (hc : l ≤ cap) :
    Calls Try.prog 4 #[.slice A l cap] w fun e w' => e = .returned (.bool true) ∧ Below w.heap.size w w' := by
  by_cases hbig : 1048576 < l
  · go_enter Try.func4, Try.ntmps4
    go_wp2
    go_returns
    exact ⟨rfl, Below.refl _ _⟩
  have hl : l ≤ 1048576 := by omega
  clear hbig
  go_enter Try.func4, Try.ntmps4
  go_wp2_with fail
  refine (drawHeavyOf_any _ _ _ _ hb hl hc).mono ?_
  rintro e1 w1 ⟨n, A1, c, es, B, d, ws, s, rfl, own, ownB, n1, n7, hle, hlw, sl, sh, hb1⟩
  have D1 := NetWs.start (n := n) (cap := c) 25 own.edges ownB.ints
  have HB := Lib.hid hb1
  have s1 := hb1.size
  clear own ownB hb1 hb hl hc
  obtain ⟨m, hm⟩ : ∃ m, ws.length = m := ⟨_, rfl⟩
  have HH : Hid (∀ (s z : Int), heavyI n es ws s = z → ∀ u, NetWs w1 u n A1 c es B ws → Calls Try.prog 21 #[.agg #[.int .i64 n, .slice A1 es.length c], .slice B m d, .int .i64 s] u fun e w' => e = .returned (.int .i64 z) ∧ Below u.heap.size u w') := fun s z hz u h => by
    rw [← hz, ← hm]; exact heavyOf_any n A1 c es B d ws s u h.1.edges (by omega) h.ints (by omega)
  have HS : Hid (∀ (s z : Int), heavyI n es ws s = z → ∀ u, NetWs w1 u n A1 c es B ws → Calls Try.prog 22 #[.agg #[.int .i64 n, .slice A1 es.length c], .slice B m d, .int .i64 s] u fun e w' => e = .returned (.int .i64 z) ∧ Below u.heap.size u w') := fun s z hz u h => by
    rw [← hz, ← hm]; exact specHeavyOf_any n A1 c es B d ws s u h.1.edges (by omega) h.ints (by omega)
  obtain ⟨z, hz⟩ : ∃ z, heavyI n es ws s = z := ⟨_, rfl⟩
  have HZ := Lib.hid hz
  rw [hm]
  obtain ⟨⟨_, _, c0, c1, s0⟩, -⟩ := id D1
  go_wp2_with fail
  refine (HH.out _ _ HZ.out _ D1).mono ?_
  rintro e2 w2 ⟨rfl, hb2⟩
  have D2 := D1.on _ hb2
  clear hb2 c0 c1 s0 D1
  obtain ⟨⟨_, _, c0, c1, s0⟩, -⟩ := id D2
  go_wp2_with fail
  refine (HS.out _ _ HZ.out _ D2).mono ?_
  rintro e3 w3 ⟨rfl, hb3⟩
  have D3 := D2.on _ hb3
  clear hb3 c0 c1 s0 D2 HS
  obtain ⟨⟨_, _, c0, c1, s0⟩, -⟩ := id D3
  by_cases hz0 : z < 0
  · obtain rfl : z = -1 := by rw [← hz]; exact heavy_neg (by rw [hz]; exact hz0)
    clear hz
    go_wp2_with fail
    refine (alive_any _).mono ?_
    rintro e5 w5 ⟨rfl, hb5⟩
    have D5 := D3.on _ hb5
    go_wp2_with fail
    go_returns
    exact ⟨by first | rfl | simp, HB.out.trans (D5.1.below.mono s1)⟩
  · have hok := heavy_ok (n := n) (es := es) (ws := ws) (s := s) (by rw [hz]; exact Int.not_lt.1 hz0)
    obtain ⟨q, rfl, -, -⟩ := state_nat (by unfold heavyOk at hok; rw [Bool.and_eq_true] at hok; exact hok.2)
    obtain ⟨hq, h9, hq1, hq2, hsum, hzero⟩ := heavy_parts hok
    obtain ⟨y, hy⟩ : ∃ y, heavyI n es ws ((2 ^ es.length - 1 - q : Nat) : Nat) = y := ⟨_, rfl⟩
    obtain ⟨x, hx⟩ : ∃ x, heavyI n es ws ((2 ^ es.length - 1 : Nat) : Nat) = x := ⟨_, rfl⟩
    rw [hz, hy, hx] at hsum
    rw [hz] at hq1
    rw [hy] at hq2
    have hlmin : min es.length 64 = es.length := by omega
    obtain ⟨P, hP, p1, p2, hp3, hp4⟩ := pow_named12 (show es.length ≤ 13 by omega)
    rw [hP] at hq hy hx
    have wz : IntKind.i64.wrap (z + y) = x := wrap_two hsum hq1 hq2
    have wa : IntKind.i64.wrap ((P : Int) - 1) = ((P - 1 : Nat) : Int) := wrap_one p1 p2
    have wb : IntKind.i64.wrap (((P - 1 : Nat) : Int) - (q : Int)) = ((P - 1 - q : Nat) : Int) := wrap_rest hq p2
    have HA := Lib.hid (HH.out _ _ hx)
    have HR := Lib.hid (HH.out _ _ hy)
    have HO := Lib.hid (HH.out _ _ hzero)
    clear hok hP hq hz hy hx hsum hzero HH hq1 hq2
    generalize P - 1 - q = r at *
    generalize P - 1 = a at *
    go_wp2_with fail
    refine wp_region_class (fun u => NetWs w1 u n A1 c es B ws) (by kernel_rfl) (by kernel_rfl) D3.drew ?_
    clear D3 c0 c1 s0
    intro X hX f hf hex
    have k0 : ∀ x, (f x).cell? ⟨w1.heap.size, 0, none⟩ = some (.int .i64 n) := fun x => (hf x).1.c0
    have k1 : ∀ x, (f x).cell? ⟨w1.heap.size, 1, none⟩ = some (.slice A1 es.length c) := fun x => (hf x).1.c1
    repeat (go_big_quiet_step (first | (go_at_call 21; first | (with_reducible exact class_of hex (HR.out _ (hf _)) (hf _).on) | (with_reducible exact class_of hex (HA.out _ (hf _)) (hf _).on) | (with_reducible exact class_of hex (HO.out _ (hf _)) (hf _).on))))
    refine wpQuiet_nil ?_
    rintro _ ⟨x, rfl⟩
    have F := hf x
    clear k0 k1
    go_wp2_with fail
    go_returns
    exact ⟨by first | rfl | simp, HB.out.trans (F.1.below.mono s1)⟩

namespace fnHeavyOf
open Go.ChangeShapes Go.WideShapes Go.ChangeAt Go.RowKit Go.Deep Go.Joins
set_option linter.unusedVariables false
set_option maxRecDepth 100000 in
theorem lifted (os : Os) (started : os.Started) (H : Type) (enc : TypeId × Value → H) :
    ReturnsInHanded {} Try.checked os 4 .any (Rows.fnHeavyOfSpec.pre6 enc Try.prog Try.f4 Rows.fnHeavyOfRow.domain false) (Rows.fnHeavyOfSpec.post enc Try.prog Try.f4 false true false false) := by
  refine returnsInHanded_of_change (C := Try.checked) own started (by kernel_rfl) Try.func4
    (ChangeSpec.witness6 (enc := enc) (C := Try.checked) false ⟨#[], #[.slice none 0 0], []⟩ 8 (by kernel_rfl) (by kernel_rfl) (by kernel_rfl) (by kernel_rfl)) ?_
  intro W base args ds gs before hval0 hW hcnd _
  have hval : ∀ (j : Nat) t v, Try.f4.params[j]? = some t → args[j]? = some v → Value.okWide Try.prog W .any base t v := hval0
  have hW' := hW
  obtain ⟨p, q, hA0, hV, rfl, hfz, hnd⟩ := hW
  have hA : DataW.TrodAll enc Try.prog W 0 (fun _ => true) true Try.f4.params.toList args.toList ds p := hA0
  rw [Try.params4] at hA hval
  obtain ⟨v0, vs0, d0, ds0, p0, q0, hargs, rfl, rfl, h0, r0⟩ := trodAll_cons hA
  obtain ⟨rfl, rfl, rfl⟩ := trodAll_nil r0
  obtain rfl : args = #[v0] := by cases args; simp_all
  obtain ⟨rfl, rfl⟩ := trodVars_none hV
  have k0 := h0
  have lt0 : ∀ x ∈ p0, x.block < W.heap.size := by obtain ⟨m, hm⟩ := k0; exact DataW.trod_lt m _ _ _ hm
  obtain ⟨A0, c0, bs0, rfl, hb0, hl0⟩ := open_bytes (hval 0 22 v0 rfl rfl) h0
  clear hA0 hval0
  refine (heavyOf_law A0 c0 bs0 W hb0 hl0).mono fun e W' ⟨he, bel⟩ => ?_
  subst he
  exact ⟨_, rfl, _, _, _, [], _, [], hW', trodAll_mk1 (shut_bool Try.underlying4 _), (trodAll_cons_mk (Below.trod laidOut (by kernel_rfl) (of_decide_eq_true (by kernel_rfl)) k0 bel lt0) trodAll_mk0), rfl, bel.frame _, fun h => by cases h⟩

theorem holds : Rows.FnHeavyOfSaid :=
  OpenClaim.holds_of_wide 4 Try.f4 rfl rfl rfl rfl rfl rfl rfl ⟨rfl, rfl, rfl, rfl, rfl⟩ rfl rfl rfl rfl rfl (by kernel_rfl) Try.func4 (by kernel_rfl)
    (of_decide_eq_true (by kernel_rfl)) (by unfold Func.isWrapper; first | (rw [if_pos (by decide +kernel)]; kernel_rfl) | (rw [if_neg (by decide +kernel)]; exact ⟨rfl, rfl⟩))
    (fun os started H enc _ => lifted os started H enc)
end fnHeavyOf
end Go.Proofs.Ytmdmmebekicpkab
