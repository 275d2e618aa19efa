/- Counts of states of a net: what the laws on counts ask. -/
import Derived.Test.YtdacfeebidhgnaaMore2
import Derived.Test.YtdacfeebidhgnaaCounts
import Derived.Test.YtdacfeebidhgnaaMade
namespace Go.Proofs.Ytdacfeebidhgnaa
open Go.RowKit
set_option maxRecDepth 100000

def endN (e : Int × Int) : Nat × Nat := (e.1.toNat, e.2.toNat)
def endsL (es : List (Int × Int)) : List (Nat × Nat) := es.map endN
theorem endsL_length (es : List (Int × Int)) : (endsL es).length = es.length := by simp [endsL]
theorem endsL_range (es : List (Int × Int)) : (List.range es.length).map (endsOf es) = endsL es := by
  apply List.ext_getElem?
  intro j
  simp only [List.getElem?_map, endsL]
  by_cases h : j < es.length
  · simp [h, endsOf, endN]
  · simp [h]
theorem rep_ends (es : List (Int × Int)) (T : Nat → Bool) : rep (endsOf es) T es.length = repL (endsL es) T (fun x => x) := by
  rw [← endsL_range, repL_rep]
theorem endsL_ok {n : Int} {es : List (Int × Int)} (h : netOkB n es = true) : EdgesOk n.toNat (endsL es) := by
  intro e he
  simp only [endsL, List.mem_map] at he
  obtain ⟨x, hx, rfl⟩ := he
  have := (netOkB_iff.1 h).2.2 x hx
  simp only [endN]; omega
theorem good_id (n : Nat) : Good n (fun x => x) := ⟨fun _ => rfl, fun _ h1 h2 => ⟨h1, h2⟩⟩

/-- Whole states with k edges there; states that join a and b; states without a ring. -/
def wholeC (n : Int) (es : List (Int × Int)) (k : Nat) : Nat := ways (wholeA n.toNat) (endsL es) (fun x => x) k
def joinQ (a b : Nat) (R : Nat → Nat) : Bool := decide (R a = R b)
def joinC (es : List (Int × Int)) (a b : Nat) (k : Nat) : Nat := ways (joinQ a b) (endsL es) (fun x => x) k
def forestC (es : List (Int × Int)) (k : Nat) : Nat := forests (endsL es) (fun x => x) k
theorem joinQ_blind (a b : Nat) : Blind (joinQ a b) := fun R R' h => by
  rw [Bool.eq_iff_iff]; simp only [joinQ, decide_eq_true_eq]; exact h a b
theorem joinQ_up (a b : Nat) : Up (joinQ a b) := fun R c d h => by
  simp only [joinQ, decide_eq_true_eq] at h ⊢; exact glue_kept h c d
theorem joinC_swap (es : List (Int × Int)) (a b k : Nat) : joinC es b a k = joinC es a b k := by
  have : joinQ b a = joinQ a b := by
    funext R; rw [Bool.eq_iff_iff]; simp only [joinQ, decide_eq_true_eq]; exact eq_comm
  unfold joinC; rw [this]
theorem ways_none {q : (Nat → Nat) → Bool} {R : Nat → Nat} (h : q R = false) : ∀ es : List (Nat × Nat), ways q es R 0 = 0
  | [] => by simp [ways, h]
  | _ :: es => by simp only [ways]; exact ways_none h es
theorem joinC_zero (es : List (Int × Int)) {a b : Nat} (h : a ≠ b) : joinC es a b 0 = 0 := ways_none (by simpa [joinQ] using h) _
theorem joinC_le (es : List (Int × Int)) (a b k : Nat) : joinC es a b k ≤ chs es.length k := by
  have := ways_le (joinQ a b) (endsL es) (fun x => x) k
  rwa [endsL_length] at this
theorem joinC_next (es : List (Int × Int)) (a b k : Nat) : joinC es a b k * (es.length - k) ≤ joinC es a b (k + 1) * (k + 1) := by
  have := ways_next (joinQ_blind a b) (joinQ_up a b) (endsL es) (fun x => x) k
  rwa [endsL_length] at this

theorem whole_states {n : Int} {es : List (Int × Int)} (h : netOkB n es = true) (k : Nat) :
    (List.range (2 ^ es.length)).countP (fun s : Nat => decide (piecesB n es s = 1) && decide (pop s = k)) = wholeC n es k := by
  have h1 := netOkB_iff.1 h
  unfold wholeC
  rw [← ways_good (by omega) (endsL es) _ k (endsL_ok h) (good_id _), ← states_ways (whole1 n.toNat) (endsL es) (fun x => x) k (by rw [endsL_length]; omega), endsL_length]
  refine countP_same fun s _ => ?_
  have : piecesB n es s = cnt (repL (endsL es) (fun i => s.testBit i) (fun x => x)) n.toNat := by
    unfold piecesB pcs; rw [rep_ends]; rfl
  rw [this]; rfl
theorem join_states {n : Int} {es : List (Int × Int)} (h : netOkB n es = true) {a b : Nat} (ha : 1 ≤ a ∧ (a : Int) ≤ n) (hb : 1 ≤ b ∧ (b : Int) ≤ n) (k : Nat) :
    (List.range (2 ^ es.length)).countP (fun s : Nat => joinedB n es s a b && decide (pop s = k)) = joinC es a b k := by
  have h1 := netOkB_iff.1 h
  unfold joinC
  rw [← states_ways (joinQ a b) (endsL es) (fun x => x) k (by rw [endsL_length]; omega), endsL_length]
  refine countP_same fun s hs => ?_
  have e1 : joinedB n es s a b = joinQ a b (repL (endsL es) (fun i => s.testBit i) (fun x => x)) := by
    rw [Bool.eq_iff_iff, joined_iff, rep_ends]
    simp only [joinQ, decide_eq_true_eq, Int.toNat_natCast]
    constructor
    · intro hh; exact hh.2.2.2
    · intro hh; exact ⟨state_of h hs, ⟨by omega, ha.2⟩, ⟨by omega, hb.2⟩, hh⟩
  rw [e1]
theorem forest_states {n : Int} {es : List (Int × Int)} (h : netOkB n es = true) (k : Nat) :
    (List.range (2 ^ es.length)).countP (fun s : Nat => freeB n es s && decide (pop s = k)) = forestC es k := by
  have h1 := netOkB_iff.1 h
  unfold forestC
  rw [← states_forests (endsL es) (fun x => x) k (by rw [endsL_length]; omega), endsL_length]
  refine countP_same fun s hs => ?_
  have e1 : freeB n es s = freeL (endsL es) (fun i => s.testBit i) (fun x => x) := by
    have hs' := state_of h hs
    rw [Bool.eq_iff_iff, free_iff hs', (free_cnt (endsL es) (fun i => s.testBit i) (fun x => x) (endsL_ok h) (good_id _)).2, cardL_card, endsL_length, cnt_id (fun _ => rfl)]
    unfold pcs
    rw [rep_ends]; rfl
  rw [e1]
theorem forestC_zero (es : List (Int × Int)) : forestC es 0 = 1 := forests_zero _ _
theorem forestC_one {n : Int} {es : List (Int × Int)} (h : netOkB n es = true) : forestC es 1 = es.length := by
  rw [← endsL_length es]
  refine forests_all fun e he => ?_
  simp only [endsL, List.mem_map] at he
  obtain ⟨x, hx, rfl⟩ := he
  have := (netOkB_iff.1 h).2.2 x hx
  simp only [endN]; omega
theorem forestC_many {n : Int} {es : List (Int × Int)} (h : netOkB n es = true) {k : Nat} (hk : n ≤ k) : forestC es k = 0 := by
  have h1 := netOkB_iff.1 h
  refine forests_many (n := n.toNat) (by omega) (endsL es) _ k (endsL_ok h) (good_id _) ?_
  rw [cnt_id (fun _ => rfl)]; omega
theorem forestC_whole {n : Int} {es : List (Int × Int)} (h : netOkB n es = true) {k : Nat} (hk : (k : Int) = n - 1) : forestC es k = wholeC n es k := by
  have h1 := netOkB_iff.1 h
  unfold forestC wholeC
  rw [← ways_good (by omega) (endsL es) _ k (endsL_ok h) (good_id _)]
  refine (whole_forests (endsL es) _ k (endsL_ok h) (good_id _) ?_).symm
  rw [cnt_id (fun _ => rfl)]; omega

/-- An edge is there or not: the states without it, and one edge later those of the net with its ends made one, each edge that is left out then there or not. -/
theorem wholeC_split {n : Int} {es : List (Int × Int)} (h : netOkB n es = true) {at_ : Nat} (hat : at_ < es.length) (k : Nat) :
    wholeC n es k = wholeC n (es.take at_ ++ es.drop (at_ + 1)) k + later (twN (es.countP (fun e => eqEB e es[at_]) - 1) (wholeC (n - 1) (madeL es[at_] es))) k := by
  have h1 := netOkB_iff.1 h
  have hg := fit_ends h hat
  have hgN : 1 ≤ (endN es[at_]).1 ∧ (endN es[at_]).1 < (endN es[at_]).2 ∧ (endN es[at_]).2 ≤ n.toNat := by simp only [endN]; omega
  have hsplit : es = es.take at_ ++ (es[at_] :: es.drop (at_ + 1)) := by rw [← List.drop_eq_getElem_cons hat, List.take_append_drop]
  have hL : endsL es = endsL (es.take at_) ++ endN es[at_] :: endsL (es.drop (at_ + 1)) := by
    conv => lhs; rw [hsplit]
    show List.map endN _ = List.map endN _ ++ endN es[at_] :: List.map endN _
    rw [List.map_append, List.map_cons]
  have hR : endsL (es.take at_ ++ es.drop (at_ + 1)) = endsL (es.take at_) ++ endsL (es.drop (at_ + 1)) := by simp [endsL]
  have hq := wholeA_blind n.toNat
  have hinj : ∀ x ∈ es, (decide (endN x = endN es[at_]) : Bool) = eqEB x es[at_] := by
    intro x hx
    have hx' := h1.2.2 x hx
    rw [Bool.eq_iff_iff]
    simp only [decide_eq_true_eq, eqEB, endN, Prod.ext_iff]
    omega
  have hcount : (endsL (es.take at_) ++ endsL (es.drop (at_ + 1))).countP (fun e => decide (e = endN es[at_])) = es.countP (fun e => eqEB e es[at_]) - 1 := by
    have h2 : (endsL es).countP (fun e => decide (e = endN es[at_])) = es.countP (fun e => eqEB e es[at_]) := by
      unfold endsL
      rw [List.countP_map]
      exact List.countP_congr fun x hx => by simp only [Function.comp, hinj x hx]
    rw [← h2, hL]
    simp only [List.countP_append, List.countP_cons, decide_true, if_true]
    omega
  have hfil : ((endsL (es.take at_) ++ endsL (es.drop (at_ + 1))).filter fun e => !decide (e = endN es[at_])).map (mmN (renN (endN es[at_]))) = endsL (madeL es[at_] es) := by
    have h2 : (endsL (es.take at_) ++ endsL (es.drop (at_ + 1))).filter (fun e => !decide (e = endN es[at_])) = (endsL es).filter (fun e => !decide (e = endN es[at_])) := by
      rw [hL]; simp
    rw [h2]
    unfold endsL madeL
    rw [List.filter_map, List.map_map, List.map_map]
    have h3 : es.filter ((fun e => !decide (e = endN es[at_])) ∘ endN) = es.filter fun e => !eqEB e es[at_] := by
      apply List.filter_congr
      intro x hx
      simp only [Function.comp, hinj x hx]
    rw [h3]
    apply List.map_congr_left
    intro x hx
    have hx' := h1.2.2 x (List.mem_filter.1 hx).1
    have hr : ∀ v : Int, 1 ≤ v → renN (endN es[at_]) v.toNat = (renI es[at_] v).toNat ∧ 0 ≤ renI es[at_] v := by
      intro v hv
      unfold renN renI endN
      simp only
      split <;> split <;> (try split) <;> (try split) <;> omega
    have r1 := hr x.1 (by omega)
    have r2 := hr x.2 (by omega)
    simp only [Function.comp, mmN, endN]
    rw [show renN (endN es[at_]) = renN (es[at_].1.toNat, es[at_].2.toNat) from rfl] at r1 r2
    rw [r1.1, r2.1]
    apply Prod.ext
    · simp only [mmE]; split <;> omega
    · simp only [mmE]; split <;> omega
  have hmade : EdgesOk n.toNat ((endsL (es.take at_) ++ endsL (es.drop (at_ + 1))).filter fun e => !decide (e = endN es[at_])) := by
    intro e he
    have h3 := (List.mem_filter.1 he).1
    refine endsL_ok h e ?_
    rw [hL]
    rw [List.mem_append] at h3 ⊢
    rcases h3 with h3 | h3
    · exact .inl h3
    · exact .inr (List.mem_cons_of_mem _ h3)
  have hsame := ways_same hq (endN es[at_]) (endsL (es.take at_) ++ endsL (es.drop (at_ + 1))) (glue (fun x => x) (endN es[at_]).1 (endN es[at_]).2) (by rw [glue_self, glue_other])
  have hmm : ways (wholeA n.toNat) ((endsL (es.take at_) ++ endsL (es.drop (at_ + 1))).filter fun e => !decide (e = endN es[at_])) (glue (fun x => x) (endN es[at_]).1 (endN es[at_]).2) = wholeC (n - 1) (madeL es[at_] es) := by
    funext j
    rw [ways_made hgN _ hmade j, hfil]
    unfold wholeC
    rw [show (n - 1).toNat = n.toNat - 1 by omega]
  rw [hcount, hmm] at hsame
  show ways (wholeA n.toNat) (endsL es) (fun x => x) k = ways (wholeA n.toNat) (endsL (es.take at_ ++ es.drop (at_ + 1))) (fun x => x) k + _
  rw [hL, hR]
  cases k with
  | zero => rw [ways_zero]; rfl
  | succ k => rw [ways_move hq, hsame]; rfl
end Go.Proofs.Ytdacfeebidhgnaa
