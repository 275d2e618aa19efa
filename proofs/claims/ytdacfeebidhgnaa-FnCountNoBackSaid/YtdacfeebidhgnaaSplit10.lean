/- An edge of a net that alone has its ends, taken away and made one: paintings, arrows, flows. -/
import Derived.Test.YtdacfeebidhgnaaTutte
import Derived.Test.YtdacfeebidhgnaaMadeF
import Derived.Test.YtdacfeebidhgnaaWithout
namespace Go.Proofs.Ytdacfeebidhgnaa
open Go.RowKit
set_option maxRecDepth 100000

/-- What the laws on deletion and making one ask of a net. -/
theorem net_split {n : Int} {es : List (Int × Int)} (h : netOkB n es = true) (h3 : 3 ≤ n) {k : Nat} (hat : k < es.length) :
    ∃ (l1 l2 : List (Nat × Nat)) (g : Nat × Nat), endsL es = l1 ++ g :: l2 ∧ endsL (es.take k ++ es.drop (k + 1)) = l1 ++ l2 ∧ EdgesOk n.toNat (l1 ++ l2) ∧ (1 ≤ g.1 ∧ g.1 < g.2 ∧ g.2 ≤ n.toNat) ∧
      (es.countP (fun e => eqEB e es[k]) = 1 → endsL (madeL es[k] es) = (l1 ++ l2).map (mmN (renN g))) := by
  have h1 := netOkB_iff.1 h
  have hg := fit_ends h hat
  have hsplit : es = es.take k ++ (es[k] :: es.drop (k + 1)) := by rw [← List.drop_eq_getElem_cons hat, List.take_append_drop]
  have hL : endsL es = endsL (es.take k) ++ endN es[k] :: endsL (es.drop (k + 1)) := by
    conv => lhs; rw [hsplit]
    show List.map endN _ = List.map endN _ ++ endN es[k] :: List.map endN _
    rw [List.map_append, List.map_cons]
  have hR : endsL (es.take k ++ es.drop (k + 1)) = endsL (es.take k) ++ endsL (es.drop (k + 1)) := by simp [endsL]
  have hinj : ∀ x ∈ es, (decide (endN x = endN es[k]) : Bool) = eqEB x es[k] := by
    intro x hx
    have hx' := h1.2.2 x hx
    rw [Bool.eq_iff_iff]
    simp only [decide_eq_true_eq, eqEB, endN, Prod.ext_iff]
    omega
  have hcount : (endsL (es.take k) ++ endsL (es.drop (k + 1))).countP (fun e => decide (e = endN es[k])) = es.countP (fun e => eqEB e es[k]) - 1 := by
    have h2 : (endsL es).countP (fun e => decide (e = endN es[k])) = es.countP (fun e => eqEB e es[k]) := by
      unfold endsL
      rw [List.countP_map]
      exact List.countP_congr fun x hx => by simp only [Function.comp, hinj x hx]
    rw [← h2, hL]
    simp only [List.countP_append, List.countP_cons, decide_true, if_true]
    omega
  have hfil : ((endsL (es.take k) ++ endsL (es.drop (k + 1))).filter fun e => !decide (e = endN es[k])).map (mmN (renN (endN es[k]))) = endsL (madeL es[k] es) := by
    have h2 : (endsL (es.take k) ++ endsL (es.drop (k + 1))).filter (fun e => !decide (e = endN es[k])) = (endsL es).filter (fun e => !decide (e = endN es[k])) := by
      rw [hL]; simp
    rw [h2]
    unfold endsL madeL
    rw [List.filter_map, List.map_map, List.map_map]
    have h3 : es.filter ((fun e => !decide (e = endN es[k])) ∘ endN) = es.filter fun e => !eqEB e es[k] := by
      apply List.filter_congr
      intro x hx
      simp only [Function.comp, hinj x hx]
    rw [h3]
    apply List.map_congr_left
    intro x hx
    have hx' := h1.2.2 x (List.mem_filter.1 hx).1
    have hr : ∀ v : Int, 1 ≤ v → renN (endN es[k]) v.toNat = (renI es[k] v).toNat ∧ 0 ≤ renI es[k] v := by
      intro v hv
      unfold renN renI endN
      simp only
      split <;> split <;> (try split) <;> (try split) <;> omega
    have r1 := hr x.1 (by omega)
    have r2 := hr x.2 (by omega)
    simp only [Function.comp, mmN, endN]
    rw [show renN (endN es[k]) = renN (es[k].1.toNat, es[k].2.toNat) from rfl] at r1 r2
    rw [r1.1, r2.1]
    apply Prod.ext
    · simp only [mmE]; split <;> omega
    · simp only [mmE]; split <;> omega
  have hok := endsL_ok h
  refine ⟨endsL (es.take k), endsL (es.drop (k + 1)), endN es[k], hL, hR, fun e he => hok e (by rw [hL]; simp at he ⊢; rcases he with he | he <;> simp [he]), by simp only [endN]; omega, fun hc => ?_⟩
  rw [← hfil]
  congr 1
  refine List.filter_eq_self.2 fun e he => ?_
  rw [hc] at hcount
  have := List.countP_eq_zero.1 hcount e he
  simpa using this
end Go.Proofs.Ytdacfeebidhgnaa
