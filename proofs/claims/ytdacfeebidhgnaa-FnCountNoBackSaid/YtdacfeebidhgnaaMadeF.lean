/- What making an edge one does to a net: plain facts; and the contracts at known values. -/
import Derived.Test.YtdacfeebidhgnaaMade2
namespace Go.Proofs.Ytdacfeebidhgnaa
open Go.RowKit
set_option maxRecDepth 100000

theorem madeOne_is (n a : Int) (A : Option Addr) (cap : Nat) (es : List (Int × Int)) (w : World) (hes : EdgesIn w w.heap.size A es) (hl : es.length ≤ 1048576) (n' : Int) (es' : List (Int × Int)) (l : Int) (b : Bool)
    (h : mN n es a = n' ∧ mE n es a = es' ∧ mL n es a = l ∧ mOk n es a = b) :
    Calls Try.prog 40 #[.agg #[.int .i64 n, .slice A es.length cap], .int .i64 a] w (GotMade w n' es' l b) := by
  obtain ⟨rfl, rfl, rfl, rfl⟩ := h
  exact madeOne_any n a A cap es w hes hl
theorem netOk_val (n : Int) (A : Option Addr) (cap : Nat) (es : List (Int × Int)) (w : World) (hes : EdgesIn w w.heap.size A es) (hl : es.length ≤ 1048576) (b : Bool) (h : netOkB n es = b) :
    Calls Try.prog 37 #[.agg #[.int .i64 n, .slice A es.length cap]] w fun e w' => e = .returned (.bool b) ∧ Below w.heap.size w w' := h ▸ netOk_any n A cap es w hes hl

theorem ren_range {n v : Int} {g : Int × Int} (hg : 1 ≤ g.1 ∧ g.1 < g.2 ∧ g.2 ≤ n) (hv : 1 ≤ v ∧ v ≤ n) : 1 ≤ renI g v ∧ renI g v ≤ n - 1 := by
  unfold renI; split
  · omega
  · split <;> omega
theorem mm_fits {n : Int} {g e : Int × Int} (hg : 1 ≤ g.1 ∧ g.1 < g.2 ∧ g.2 ≤ n) (he : 1 ≤ e.1 ∧ e.1 < e.2 ∧ e.2 ≤ n) (hne : e ≠ g) :
    1 ≤ (mmE g e).1 ∧ (mmE g e).1 < (mmE g e).2 ∧ (mmE g e).2 ≤ n - 1 := by
  have h1 := ren_range hg ⟨he.1, by omega⟩
  have h2 := ren_range (v := e.2) hg ⟨by omega, he.2.2⟩
  have h3 : renI g e.1 ≠ renI g e.2 := fun h => hne ((ren_eq hg.2.1 he.2.1).1 h)
  unfold mmE
  simp only
  split <;> split <;> omega
theorem mm_end {n : Int} {g e : Int × Int} (hg : 1 ≤ g.1 ∧ g.1 < g.2 ∧ g.2 ≤ n) (he : 1 ≤ e.1 ∧ e.1 < e.2 ∧ e.2 ≤ n) (hne : e ≠ g) :
    (if endB g.1 (mmE g e) = true then 1 else 0) = (if endB g.1 e = true then 1 else 0) + (if endB g.2 e = true then 1 else 0) := by
  have hr : ∀ v, renI g v = g.1 ↔ v = g.1 ∨ v = g.2 := by
    intro v; unfold renI; split
    · rename_i h; simp [h]
    · split <;> omega
  have h0 : endB g.1 (mmE g e) = true ↔ renI g e.1 = g.1 ∨ renI g e.2 = g.1 := by
    unfold endB mmE
    simp only [Bool.or_eq_true, decide_eq_true_eq]
    split <;> split <;> omega
  have h1 : endB g.1 e = true ↔ e.1 = g.1 ∨ e.2 = g.1 := by simp [endB]
  have h2 : endB g.2 e = true ↔ e.1 = g.2 ∨ e.2 = g.2 := by simp [endB]
  have h4 : ¬ (e.1 = g.1 ∧ e.2 = g.2) := fun h => hne (Prod.ext h.1 h.2)
  simp only [h0, h1, h2, hr]
  by_cases a1 : e.1 = g.1 ∨ e.2 = g.1
  · rw [if_pos a1, if_pos (show (e.1 = g.1 ∨ e.1 = g.2) ∨ (e.2 = g.1 ∨ e.2 = g.2) by omega), if_neg (show ¬ (e.1 = g.2 ∨ e.2 = g.2) by omega)]
  · rw [if_neg a1]
    by_cases a2 : e.1 = g.2 ∨ e.2 = g.2
    · rw [if_pos a2, if_pos (show (e.1 = g.1 ∨ e.1 = g.2) ∨ (e.2 = g.1 ∨ e.2 = g.2) by omega)]
    · rw [if_neg a2, if_neg (show ¬ ((e.1 = g.1 ∨ e.1 = g.2) ∨ (e.2 = g.1 ∨ e.2 = g.2)) by omega)]
theorem made_count {n : Int} {g : Int × Int} (hg : 1 ≤ g.1 ∧ g.1 < g.2 ∧ g.2 ≤ n) : ∀ es : List (Int × Int), (∀ e ∈ es, 1 ≤ e.1 ∧ e.1 < e.2 ∧ e.2 ≤ n) →
    (madeL g es).countP (endB g.1) + 2 * es.countP (fun e => eqEB e g) = es.countP (endB g.1) + es.countP (endB g.2)
  | [], _ => rfl
  | e :: es, h => by
    have ih := made_count hg es fun x hx => h x (by simp [hx])
    have he := h e (by simp)
    by_cases heq : e = g
    · subst heq
      have e1 : eqEB e e = true := by simp [eqEB]
      have e2 : endB e.1 e = true := by simp [endB]
      have e3 : endB e.2 e = true := by simp [endB]
      have e4 : madeL e (e :: es) = madeL e es := by simp [madeL, e1]
      rw [e4, List.countP_cons_of_pos (by simpa using e1), List.countP_cons_of_pos e2, List.countP_cons_of_pos e3]
      omega
    · have e1 : eqEB e g = false := by simpa [eqEB] using heq
      have e4 : madeL g (e :: es) = mmE g e :: madeL g es := by simp [madeL, e1]
      have hm := mm_end hg he heq
      rw [e4, List.countP_cons, List.countP_cons, List.countP_cons, List.countP_cons, hm, e1]
      simp only [Bool.false_eq_true, if_false]
      omega
theorem made_facts {n : Int} {es : List (Int × Int)} {k : Nat} (hn : netOkB n es = true) (h3 : 3 ≤ n) (hk : k < es.length) :
    netOkB (n - 1) (madeL es[k] es) = true ∧ ((madeL es[k] es).length : Int) + ((es.countP (fun e => eqEB e es[k]) : Nat) - 1) + 1 = es.length ∧
    1 ≤ es.countP (fun e => eqEB e es[k]) ∧ es.countP (fun e => eqEB e es[k]) ≤ 9 ∧
    ∃ M1 M2 : Int, degI n es es[k].1 = M1 ∧ degI n es es[k].2 = M2 ∧ degI (n - 1) (madeL es[k] es) es[k].1 = M1 + M2 - 2 * (((es.countP (fun e => eqEB e es[k]) : Nat) - 1) + 1) ∧ 0 ≤ M1 ∧ M1 ≤ 9 ∧ 0 ≤ M2 ∧ M2 ≤ 9 := by
  obtain ⟨⟨n2, n6⟩, h9, hev⟩ := netOkB_iff.1 hn
  have hg := hev es[k] (List.getElem_mem hk)
  have hml := madeL_length es[k] es
  have hc1 : 1 ≤ es.countP (fun e => eqEB e es[k]) := List.countP_pos_iff.2 ⟨es[k], List.getElem_mem hk, by simp [eqEB]⟩
  have hc2 : es.countP (fun e => eqEB e es[k]) ≤ es.length := List.countP_le_length
  have hn' : netOkB (n - 1) (madeL es[k] es) = true := by
    refine netOkB_iff.2 ⟨⟨by omega, by omega⟩, by omega, fun e he => ?_⟩
    unfold madeL at he
    rw [List.mem_map] at he
    obtain ⟨x, hx, rfl⟩ := he
    rw [List.mem_filter] at hx
    exact mm_fits hg (hev x hx.1) (by simpa [eqEB] using hx.2)
  have hcc := made_count hg es hev
  have b1 : es.countP (endB es[k].1) ≤ es.length := List.countP_le_length
  have b2 : es.countP (endB es[k].2) ≤ es.length := List.countP_le_length
  refine ⟨hn', by omega, hc1, by omega, (es.countP (endB es[k].1) : Nat), (es.countP (endB es[k].2) : Nat), ?_, ?_, ?_, by omega, by omega, by omega, by omega⟩
  · simp [degI, nodeOkB, hn, show 1 ≤ es[k].1 by omega, show es[k].1 ≤ n by omega]
  · simp [degI, nodeOkB, hn, show 1 ≤ es[k].2 by omega, show es[k].2 ≤ n by omega]
  · simp only [degI, nodeOkB, hn', show 1 ≤ es[k].1 by omega, show es[k].1 ≤ n - 1 by omega, decide_true, Bool.and_self, if_true]
    omega
end Go.Proofs.Ytdacfeebidhgnaa
