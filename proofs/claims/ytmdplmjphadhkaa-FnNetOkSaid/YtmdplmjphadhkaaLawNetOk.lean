/- The law FnNetOk holds of every code: what the program says of a drawn net is what the reference says; two nodes without edges are a net, one node is none; a net without its last edge is one. -/
import Derived.Test.YtmdplmjphadhkaaBytes
import Derived.Test.YtmdplmjphadhkaaDrawFns
import Derived.Test.YtmdplmjphadhkaaClass
namespace Go.Proofs.Ytmdplmjphadhkaa
open Go.RowKit

theorem EdgesIn.take {w : World} {B : Nat} {A : Option Addr} {es : List (Int × Int)} (h : EdgesIn w B A es) (k : Nat) : EdgesIn w B A (es.take k) := fun j e hj => by
  rw [List.getElem?_take] at hj
  split at hj
  · exact h j e hj
  · cases hj
theorem netOkB_take {n : Int} {es : List (Int × Int)} (h : netOkB n es = true) (k : Nat) : netOkB n (es.take k) = true := by
  obtain ⟨h1, h2, h3⟩ := netOkB_iff.1 h
  exact netOkB_iff.2 ⟨h1, Nat.le_trans (by simp [List.length_take]; omega) h2, fun e he => h3 e (List.mem_of_mem_take he)⟩
theorem netOk_pre (n : Int) (A : Option Addr) (c : Nat) (es : List (Int × Int)) (w : World) (hes : EdgesIn w w.heap.size A es) (hl : es.length ≤ 1048576) (h : netOkB n es = true) :
    Calls Try.prog 16 #[.agg #[.int .i64 n, .slice A (es.length - 1) c]] w fun e w' => e = .returned (.bool true) ∧ Below w.heap.size w w' := by
  have := netOk_any n A c (es.take (es.length - 1)) w (hes.take _) (by simp; omega)
  rw [netOkB_take h, List.length_take, Nat.min_eq_left (by omega)] at this
  exact this

set_option maxRecDepth 100000 in
set_option maxHeartbeats 4000000 in
theorem netOk_law (A : Option Addr) (cap l : Nat) (w : World) (hb : BytesIn w w.heap.size A l) (hc : l ≤ cap) :
    Calls Try.prog 3 #[.slice A l cap] w fun e w' => e = .returned (.bool true) ∧ Below w.heap.size w w' := by
  by_cases hbig : 1048576 < l
  · go_enter Try.func3, Try.ntmps3
    go_wp2
    go_returns
    exact ⟨rfl, Below.refl _ _⟩
  · have hl : l ≤ 1048576 := by omega
    clear hbig
    go_enter Try.func3, Try.ntmps3
    go_wp2_with fail
    refine (drawNetOk_any _ _ _ _ hb hl hc).mono ?_
    rintro e1 w1 ⟨n, A1, c, es, rfl, own, n1, n7, hle, hb1⟩
    have L1 := ArgNet.start (cap := c) (n := n) 25 own.edges
    have hcap := own.cap
    have HB := Lib.hid hb1
    have hle' : es.length ≤ 1048576 := by omega
    have s1 := hb1.size
    clear own hb hb1
    go_wp2_with fail
    refine (netOk_any _ _ _ _ _ L1.edges hle').mono ?_
    rintro e2 w2 ⟨rfl, hb2⟩
    have L2 := L1.step hb2 L1.lt
    clear hb2 L1
    obtain ⟨_, _, c0, c1, s2⟩ := id L2
    go_wp2_with fail
    refine (specNetOk_any _ _ _ _ _ L2.edges hle').mono ?_
    rintro e3 w3 ⟨rfl, hb3⟩
    have L3 := L2.step hb3 s2
    clear hb3 c0 c1 s2 L2
    obtain ⟨_, _, c0, c1, s3⟩ := id L3
    generalize hok : netOkB n es = ok at *
    have HOK := Lib.hid hok
    clear hok
    cases ok
    · go_wp2_with fail
      refine wp_region_class (fun u => ArgNet w1 u n A1 c es) (by kernel_rfl) (by kernel_rfl) L3.drew ?_
      intro X hX f hf hex
      have k0 : ∀ x, (f x).cell? ⟨w1.heap.size, 0, none⟩ = some (.int .i64 n) := fun x => (hf x).c0
      have k1 : ∀ x, (f x).cell? ⟨w1.heap.size, 1, none⟩ = some (.slice A1 es.length c) := fun x => (hf x).c1
      repeat (go_big_quiet_step (first
        | (go_at_call 18; with_reducible exact class_of hex (alive_any _) (hf _).on)
        | (go_at_call 16; with_reducible exact class_of hex (netOk_two _) (hf _).on)
        | (go_at_call 16; with_reducible exact class_of hex (netOk_one _) (hf _).on)))
      refine wpQuiet_nil ?_
      rintro _ ⟨x, rfl⟩
      have L4 := hf x
      go_wp2_with fail
      go_returns
      exact ⟨rfl, HB.out.trans (L4.below.mono s1)⟩
    · by_cases he : es.length = 0
      · have hd : decide ((es.length : Int) - 1 < 0) = true := by simp; omega
        have HE := Lib.hid he
        clear he
        go_wp2_with fail
        refine wp_region_class (fun u => ArgNet w1 u n A1 c es) (by kernel_rfl) (by kernel_rfl) L3.drew ?_
        intro X hX f hf hex
        have k0 : ∀ x, (f x).cell? ⟨w1.heap.size, 0, none⟩ = some (.int .i64 n) := fun x => (hf x).c0
        have k1 : ∀ x, (f x).cell? ⟨w1.heap.size, 1, none⟩ = some (.slice A1 es.length c) := fun x => (hf x).c1
        repeat (go_big_quiet_step (first
          | (go_at_call 18; with_reducible exact class_of hex (alive_any _) (hf _).on)
          | (go_at_call 16; with_reducible exact class_of hex (netOk_two _) (hf _).on)
          | (go_at_call 16; with_reducible exact class_of hex (netOk_one _) (hf _).on)
          | (go_at_call 16; with_reducible exact class_of hex (netOk_pre _ _ _ _ _ (hf _).edges hle' HOK.out) (hf _).on)))
        refine wpQuiet_nil ?_
        rintro _ ⟨x, rfl⟩
        have L4 := hf x
        go_wp2_with fail
        go_returns
        exact ⟨rfl, HB.out.trans (L4.below.mono s1)⟩
      · have hd : decide ((es.length : Int) - 1 < 0) = false := by simp; omega
        have h1 : (0 : Int) ≤ (es.length : Int) - 1 := by omega
        have h2 : (es.length : Int) - 1 ≤ (c : Int) := by omega
        go_wp2_with fail
        refine wp_region_class (fun u => ArgNet w1 u n A1 c es) (by kernel_rfl) (by kernel_rfl) L3.drew ?_
        intro X hX f hf hex
        have k0 : ∀ x, (f x).cell? ⟨w1.heap.size, 0, none⟩ = some (.int .i64 n) := fun x => (hf x).c0
        have k1 : ∀ x, (f x).cell? ⟨w1.heap.size, 1, none⟩ = some (.slice A1 es.length c) := fun x => (hf x).c1
        repeat (go_big_quiet_step (first
          | (go_at_call 18; with_reducible exact class_of hex (alive_any _) (hf _).on)
          | (go_at_call 16; with_reducible exact class_of hex (netOk_two _) (hf _).on)
          | (go_at_call 16; with_reducible exact class_of hex (netOk_one _) (hf _).on)
          | (go_at_call 16; with_reducible exact class_of hex (netOk_pre _ _ _ _ _ (hf _).edges hle' HOK.out) (hf _).on)))
        refine wpQuiet_nil ?_
        rintro _ ⟨x, rfl⟩
        have L4 := hf x
        go_wp2_with fail
        go_returns
        exact ⟨rfl, HB.out.trans (L4.below.mono s1)⟩

namespace fnNetOk
open Go.ChangeShapes Go.WideShapes Go.ChangeAt Go.RowKit Go.Deep Go.Joins
set_option linter.unusedVariables false
set_option maxRecDepth 100000 in
theorem lifted (os : Os) (started : os.Started) (H : Type) (enc : TypeId × Value → H) :
    ReturnsInHanded {} Try.checked os 3 .any (Rows.fnNetOkSpec.pre6 enc Try.prog Try.f3 Rows.fnNetOkRow.domain false) (Rows.fnNetOkSpec.post enc Try.prog Try.f3 false true false false) := by
  refine returnsInHanded_of_change (C := Try.checked) own started (by kernel_rfl) Try.func3
    (ChangeSpec.witness6 (enc := enc) (C := Try.checked) false ⟨#[], #[.slice none 0 0], []⟩ 8 (by kernel_rfl) (by kernel_rfl) (by kernel_rfl) (by kernel_rfl)) ?_
  intro W base args ds gs before hval0 hW hcnd _
  have hval : ∀ (j : Nat) t v, Try.f3.params[j]? = some t → args[j]? = some v → Value.okWide Try.prog W .any base t v := hval0
  have hW' := hW
  obtain ⟨p, q, hA0, hV, rfl, hfz, hnd⟩ := hW
  have hA : DataW.TrodAll enc Try.prog W 0 (fun _ => true) true Try.f3.params.toList args.toList ds p := hA0
  rw [Try.params3] at hA hval
  obtain ⟨v0, vs0, d0, ds0, p0, q0, hargs, rfl, rfl, h0, r0⟩ := trodAll_cons hA
  obtain ⟨rfl, rfl, rfl⟩ := trodAll_nil r0
  obtain rfl : args = #[v0] := by cases args; simp_all
  obtain ⟨rfl, rfl⟩ := trodVars_none hV
  have k0 := h0
  have lt0 : ∀ x ∈ p0, x.block < W.heap.size := by obtain ⟨m, hm⟩ := k0; exact DataW.trod_lt m _ _ _ hm
  obtain ⟨A0, c0, bs0, rfl, hb0, hl0⟩ := open_bytes (hval 0 22 v0 rfl rfl) h0
  clear hA0 hval0
  refine (netOk_law A0 c0 bs0 W hb0 hl0).mono fun e W' ⟨he, bel⟩ => ?_
  subst he
  exact ⟨_, rfl, _, _, _, [], _, [], hW', trodAll_mk1 (shut_bool Try.underlying4 _), (trodAll_cons_mk (Below.trod laidOut (by kernel_rfl) (of_decide_eq_true (by kernel_rfl)) k0 bel lt0) trodAll_mk0), rfl, bel.frame _, fun h => by cases h⟩

theorem holds : Rows.FnNetOkSaid :=
  OpenClaim.holds_of_wide 3 Try.f3 rfl rfl rfl rfl rfl rfl rfl ⟨rfl, rfl, rfl, rfl, rfl⟩ rfl rfl rfl rfl rfl (by kernel_rfl) Try.func3 (by kernel_rfl)
    (of_decide_eq_true (by kernel_rfl)) (by unfold Func.isWrapper; first | (rw [if_pos (by decide +kernel)]; kernel_rfl) | (rw [if_neg (by decide +kernel)]; exact ⟨rfl, rfl⟩))
    (fun os started H enc _ => lifted os started H enc)
end fnNetOk
end Go.Proofs.Ytmdplmjphadhkaa
