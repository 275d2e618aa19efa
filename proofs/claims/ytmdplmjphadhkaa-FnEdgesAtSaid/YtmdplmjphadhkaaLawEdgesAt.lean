/- The law FnEdgesAt holds of every code: over all nodes the edges at each are together twice the edges; at each there are at most the edges; of what is no node the answer is -1. -/
import Derived.Test.YtmdplmjphadhkaaBytes
import Derived.Test.YtmdplmjphadhkaaDrawFns
import Derived.Test.YtmdplmjphadhkaaEdgesAt2
namespace Go.Proofs.Ytmdplmjphadhkaa
open Go.RowKit

theorem edgesAt_is (n v : Int) (A : Option Addr) (cap : Nat) (es : List (Int × Int)) (w : World) (hes : EdgesIn w w.heap.size A es) (hl : es.length ≤ 1048576) (m : Int) (h : degI n es v = m) :
    Calls Try.prog 26 #[.agg #[.int .i64 n, .slice A es.length cap], .int .i64 v] w fun e w' => e = .returned (.int .i64 m) ∧ Below w.heap.size w w' := h ▸ edgesAt_any n v A cap es w hes hl
theorem specEdgesAt_is (n v : Int) (A : Option Addr) (cap : Nat) (es : List (Int × Int)) (w : World) (hes : EdgesIn w w.heap.size A es) (hl : es.length ≤ 1048576) (m : Int) (h : degI n es v = m) :
    Calls Try.prog 27 #[.agg #[.int .i64 n, .slice A es.length cap], .int .i64 v] w fun e w' => e = .returned (.int .i64 m) ∧ Below w.heap.size w w' := h ▸ specEdgesAt_any n v A cap es w hes hl

/-- How many ends are at nodes up to j. -/
def upTo (es : List (Int × Int)) (j : Int) : Nat := es.countP (fun e => decide (e.1 ≤ j)) + es.countP (fun e => decide (e.2 ≤ j))
theorem upTo_zero (es : List (Int × Int)) (h : ∀ e ∈ es, 1 ≤ e.1 ∧ e.1 < e.2) : upTo es 0 = 0 := by
  unfold upTo
  rw [List.countP_eq_zero.2 (fun e he => by have := h e he; simp; omega), List.countP_eq_zero.2 (fun e he => by have := h e he; simp; omega)]
theorem upTo_all (es : List (Int × Int)) (n : Int) (h : ∀ e ∈ es, e.1 < e.2 ∧ e.2 ≤ n) : upTo es n = 2 * es.length := by
  unfold upTo
  rw [List.countP_eq_length.2 (fun e he => by have := h e he; simp; omega), List.countP_eq_length.2 (fun e he => by have := h e he; simp; omega)]
  omega
theorem upTo_succ (es : List (Int × Int)) (j : Int) (h : ∀ e ∈ es, e.1 < e.2) : upTo es (j + 1) = upTo es j + es.countP (endB (j + 1)) := by
  unfold upTo
  induction es with
  | nil => rfl
  | cons e es ih =>
    have ih := ih fun e he => h e (List.mem_cons_of_mem _ he)
    have he := h e List.mem_cons_self
    simp only [List.countP_cons, endB]
    simp only [decide_eq_true_eq, Bool.or_eq_true]
    repeat' split
    all_goals omega
theorem upTo_le (es : List (Int × Int)) (j : Int) : upTo es j ≤ 2 * es.length := by
  unfold upTo
  have h1 : es.countP (fun e => decide (e.1 ≤ j)) ≤ es.length := List.countP_le_length
  have h2 : es.countP (fun e => decide (e.2 ≤ j)) ≤ es.length := List.countP_le_length
  omega

set_option maxRecDepth 100000 in
set_option maxHeartbeats 4000000 in
theorem edgesAt_law (A : Option Addr) (cap l : Nat) (w : World) (hb : BytesIn w w.heap.size A l) (hc : l ≤ cap) :
    Calls Try.prog 6 #[.slice A l cap] w fun e w' => e = .returned (.bool true) ∧ Below w.heap.size w w' := by
  by_cases hbig : 1048576 < l
  · go_enter Try.func6, Try.ntmps6
    go_wp2
    go_returns
    exact ⟨rfl, Below.refl _ _⟩
  · have hl : l ≤ 1048576 := by omega
    clear hbig
    go_enter Try.func6, Try.ntmps6
    go_wp2_with fail
    refine (drawEdgesAt_any _ _ _ _ hb hl hc).mono ?_
    rintro e1 w1 ⟨n, A1, c, es, s, rfl, own, n1, n7, hle, sl, sh, hb1⟩
    have L1 := ArgNet.start (cap := c) (n := n) 25 own.edges
    have hcap := own.cap
    have HB := Lib.hid hb1
    have hle' : es.length ≤ 1048576 := by omega
    have s1 := hb1.size
    clear own hb hb1
    by_cases hok : nodeOkB n es s = true
    · have hnet : netOkB n es = true := by have := hok; simp only [nodeOkB, Bool.and_eq_true] at this; exact this.1
      obtain ⟨⟨n2, n6⟩, hl9, hev⟩ := netOkB_iff.1 hnet
      obtain ⟨P, hP, p0, p9⟩ : ∃ P : Int, degI n es s = P ∧ 0 ≤ P ∧ P ≤ es.length := ⟨_, rfl, by simp [degI, hok], by simp only [degI, hok, if_true]; have : es.countP (endB s) ≤ es.length := List.countP_le_length; omega⟩
      have hzero := Lib.hid (upTo_zero es fun e he => ⟨(hev e he).1, (hev e he).2.1⟩)
      have hall := Lib.hid (upTo_all es n fun e he => ⟨(hev e he).2.1, (hev e he).2.2⟩)
      have hsucc : Hid (∀ j : Int, upTo es (j + 1) = upTo es j + es.countP (endB (j + 1))) := fun j => upTo_succ es j fun e he => (hev e he).2.1
      have hdeg : Hid (∀ v : Int, 1 ≤ v → v ≤ n → degI n es v = (es.countP (endB v) : Nat)) := fun v a b => by simp [degI, nodeOkB, hnet, a, b]
      have HP := Lib.hid hP
      have hup : Hid (∀ j : Int, upTo es j ≤ 2 * es.length) := fun j => upTo_le es j
      clear hok hnet hev hP
      go_wp2_with fail
      refine (edgesAt_is _ _ _ _ _ _ L1.edges hle' P HP.out).mono ?_
      rintro e2 w2 ⟨rfl, hb2⟩
      have L2 := L1.step hb2 L1.lt
      clear hb2
      obtain ⟨_, _, c0, c1, s2⟩ := id L2
      go_wp2_with fail
      refine (specEdgesAt_is _ _ _ _ _ _ L2.edges hle' P HP.out).mono ?_
      rintro e3 w3 ⟨rfl, hb3⟩
      have L3 := L2.step hb3 L2.lt
      clear hb3
      obtain ⟨_, _, c0, c1, s3⟩ := id L3
      go_wp2_with fail
      clear c0 c1 s3 s2 L1 L2
      go_loopw [6, 7] (fun sm kk wr => ∃ k : Int, 1 ≤ k ∧ k ≤ n + 1 ∧ kk = .int .i64 k ∧ sm = .int .i64 (upTo es (k - 1) : Nat) ∧ ArgNet w1 wr n A1 c es) (fun _ kk _ => (n + 1 - intOf kk).toNat)
      case atStart => exact ⟨1, by omega, by omega, rfl, by show _ = Value.int .i64 ((upTo es 0 : Nat) : Int); rw [hzero.out]; rfl, L3⟩
      case round =>
        clear L3
        obtain ⟨k, k1, k2, rfl, rfl, L4⟩ := hrel
        obtain ⟨_, _, c0, c1, s4⟩ := id L4
        by_cases hk : k ≤ n
        · have hu := hup.out (k - 1)
          have hD := hdeg.out k k1 hk
          have hcl : es.countP (endB k) ≤ es.length := List.countP_le_length
          have hs := hsucc.out (k - 1)
          have hkk : k - 1 + 1 = k := by omega
          rw [hkk] at hs
          have HS := Lib.hid hs
          have HD := Lib.hid hD
          clear hs hD hkk
          generalize hC : es.countP (endB k) = C at *
          generalize hU : upTo es (k - 1) = U at *
          clear hC hU
          go_wp2_with fail
          refine (edgesAt_is _ _ _ _ _ _ L4.edges hle' C HD.out).mono ?_
          rintro e5 w5 ⟨rfl, hb5⟩
          have L5 := L4.step hb5 L4.lt
          clear hb5
          go_wp2_with fail
          go_roundw
          case rel => exact ⟨k + 1, by omega, by omega, by go_num, by rw [show k + 1 - 1 = k by omega, HS.out]; go_num, L5⟩
          case measure => simp [intOf]; omega
        · obtain rfl : k = n + 1 := by omega
          have he : (((upTo es n : Nat) : Int) == 2 * (es.length : Int)) = true := by rw [hall.out]; simp
          rw [show n + 1 - 1 = n by omega]
          go_wp2_with fail
          go_returns
          exact ⟨rfl, HB.out.trans (L4.below.mono s1)⟩
    · have HP : Hid (degI n es s = -1) := by simp [Hid, degI, hok]
      clear hok
      go_wp2_with fail
      refine (edgesAt_is _ _ _ _ _ _ L1.edges hle' (-1) HP.out).mono ?_
      rintro e2 w2 ⟨rfl, hb2⟩
      have L2 := L1.step hb2 L1.lt
      clear hb2
      obtain ⟨_, _, c0, c1, s2⟩ := id L2
      go_wp2_with fail
      refine (specEdgesAt_is _ _ _ _ _ _ L2.edges hle' (-1) HP.out).mono ?_
      rintro e3 w3 ⟨rfl, hb3⟩
      have L3 := L2.step hb3 L2.lt
      clear hb3
      obtain ⟨_, _, c0, c1, s3⟩ := id L3
      go_wp2_with fail
      refine (alive_any _).mono ?_
      rintro e4 w4 ⟨rfl, hb4⟩
      have L4 := L3.step hb4 L3.lt
      clear hb4
      obtain ⟨_, _, c0, c1, s4⟩ := id L4
      go_wp2_with fail
      go_returns
      exact ⟨rfl, HB.out.trans (L4.below.mono s1)⟩

namespace fnEdgesAt
open Go.ChangeShapes Go.WideShapes Go.ChangeAt Go.RowKit Go.Deep Go.Joins
set_option linter.unusedVariables false
set_option maxRecDepth 100000 in
theorem lifted (os : Os) (started : os.Started) (H : Type) (enc : TypeId × Value → H) :
    ReturnsInHanded {} Try.checked os 6 .any (Rows.fnEdgesAtSpec.pre6 enc Try.prog Try.f6 Rows.fnEdgesAtRow.domain false) (Rows.fnEdgesAtSpec.post enc Try.prog Try.f6 false true false false) := by
  refine returnsInHanded_of_change (C := Try.checked) own started (by kernel_rfl) Try.func6
    (ChangeSpec.witness6 (enc := enc) (C := Try.checked) false ⟨#[], #[.slice none 0 0], []⟩ 8 (by kernel_rfl) (by kernel_rfl) (by kernel_rfl) (by kernel_rfl)) ?_
  intro W base args ds gs before hval0 hW hcnd _
  have hval : ∀ (j : Nat) t v, Try.f6.params[j]? = some t → args[j]? = some v → Value.okWide Try.prog W .any base t v := hval0
  have hW' := hW
  obtain ⟨p, q, hA0, hV, rfl, hfz, hnd⟩ := hW
  have hA : DataW.TrodAll enc Try.prog W 0 (fun _ => true) true Try.f6.params.toList args.toList ds p := hA0
  rw [Try.params6] at hA hval
  obtain ⟨v0, vs0, d0, ds0, p0, q0, hargs, rfl, rfl, h0, r0⟩ := trodAll_cons hA
  obtain ⟨rfl, rfl, rfl⟩ := trodAll_nil r0
  obtain rfl : args = #[v0] := by cases args; simp_all
  obtain ⟨rfl, rfl⟩ := trodVars_none hV
  have k0 := h0
  have lt0 : ∀ x ∈ p0, x.block < W.heap.size := by obtain ⟨m, hm⟩ := k0; exact DataW.trod_lt m _ _ _ hm
  obtain ⟨A0, c0, bs0, rfl, hb0, hl0⟩ := open_bytes (hval 0 22 v0 rfl rfl) h0
  clear hA0 hval0
  refine (edgesAt_law A0 c0 bs0 W hb0 hl0).mono fun e W' ⟨he, bel⟩ => ?_
  subst he
  exact ⟨_, rfl, _, _, _, [], _, [], hW', trodAll_mk1 (shut_bool Try.underlying4 _), (trodAll_cons_mk (Below.trod laidOut (by kernel_rfl) (of_decide_eq_true (by kernel_rfl)) k0 bel lt0) trodAll_mk0), rfl, bel.frame _, fun h => by cases h⟩

theorem holds : Rows.FnEdgesAtSaid :=
  OpenClaim.holds_of_wide 6 Try.f6 rfl rfl rfl rfl rfl rfl rfl ⟨rfl, rfl, rfl, rfl, rfl⟩ rfl rfl rfl rfl rfl (by kernel_rfl) Try.func6 (by kernel_rfl)
    (of_decide_eq_true (by kernel_rfl)) (by unfold Func.isWrapper; first | (rw [if_pos (by decide +kernel)]; kernel_rfl) | (rw [if_neg (by decide +kernel)]; exact ⟨rfl, rfl⟩))
    (fun os started H enc _ => lifted os started H enc)
end fnEdgesAt
end Go.Proofs.Ytmdplmjphadhkaa
