/- The draws of a net with a state, a node or a place. -/
import Derived.Test.YtmdplmjphadhkaaDraws
namespace Go.Proofs.Ytmdplmjphadhkaa
open Go.RowKit

set_option maxRecDepth 100000 in
set_option maxHeartbeats 4000000 in
theorem l20Node_any (rb : Nat) (B : Option Addr) (l cap p : Nat) (w : World) (h : Rd w rb B l cap p) (hp : p ≤ 800000) :
    Calls Try.prog 47 #[.pointer (some ⟨rb, 0, none⟩)] w (DrawnNetInt w rb B l cap p) := by
  have hrb := h.lt
  have H1 := h.keep ((Below.refl w.heap.size w).alloc (Nat.le_refl _) (.cells #[.int .i64 0, .slice none 0 0] 25)) hrb
  go_enter Try.func47, Try.ntmps47
  go_wp2_with fail
  refine (l20Net_any _ _ _ _ _ _ _ H1 (by omega) (by omega) (by omega)).mono ?_
  rintro e1 w1 ⟨n, A, c, es, q, rfl, own, n1, n7, hle, H2, hq, hg⟩
  have NB := NetBox2.start (n := n) (t' := 25) hrb own hg
  have H3 := H2.keep ((Below.refl w1.heap.size w1).alloc (Nat.le_refl _) (.cells #[.int .i64 n, .slice A es.length c] 25)) H2.lt
  clear H1 H2 own hg
  obtain ⟨c0, c1, r0, r1, g0, g1, _, _, o1, o2, o3, o4⟩ := id NB
  have hmx : (if n < 1 then (1 : Int) else n) = n := if_neg (by omega)
  go_wp2_with fail
  obtain ⟨W, hW⟩ : ∃ W, W = w1.alloc (.cells #[.int .i64 n, .slice A es.length c] 25) := ⟨_, rfl⟩
  clear c0 c1 r0 r1 g0 g1 o1 o2 o3 o4
  rw [← hW] at NB H3 ⊢
  clear hW
  generalize hnb : w1.heap.size = nb at *
  generalize hT : w.heap.size = T at *
  clear hnb hT
  obtain ⟨c0, c1, r0, r1, g0, g1, _, _, o1, o2, o3, o4⟩ := id NB
  have c0' := NB.drew.n0
  have c1' := NB.drew.n1
  go_region_law (first
    | (go_simp; go_at_call 59; (with_reducible refine (pick_any _ _ _ _ _ (20 : Int) _ ((H3.drew.next m5).next m6) (by omega) (by omega)).mono ?_); rintro e7 w7 ⟨x7, m7, rfl, a7, b7, -, rfl⟩; have b7 := b7 (by omega); have NC := ((NB.drew.readOn q m5).readOn (q + 1) m6).readOn (q + 1 + 1) m7; have H5 := ((H3.drew.next m5).next m6).next m7; have wt7 : x7.tdiv 19 = x7 / 19 := Int.tdiv_eq_ediv_of_nonneg a7; have wu7 : IntKind.i64.wrap (x7 / 19) = x7 / 19 := IntWalk.i64_in _ (by omega); have ws7 : IntKind.i64.wrap (1 + x5 + x6 / 19 - x7 / 19) = 1 + x5 + x6 / 19 - x7 / 19 := IntWalk.i64_in _ (by omega); have d0 := NC.n0; have d1 := NC.n1; have d2 := NC.r0; have d3 := NC.r1; have d4 := NC.g0; have d5 := NC.g1)
    | (go_simp; go_at_call 59; (with_reducible refine (pick_any _ _ _ _ _ (20 : Int) _ (H3.drew.next m5) (by omega) (by omega)).mono ?_); rintro e6 w6 ⟨x6, m6, rfl, a6, b6, -, rfl⟩; have b6 := b6 (by omega); have wt6 : x6.tdiv 19 = x6 / 19 := Int.tdiv_eq_ediv_of_nonneg a6; have wu6 : IntKind.i64.wrap (x6 / 19) = x6 / 19 := IntWalk.i64_in _ (by omega); have ws6 : IntKind.i64.wrap (1 + x5 + x6 / 19) = 1 + x5 + x6 / 19 := IntWalk.i64_in _ (by omega); have NE := (NB.drew.readOn q m5).readOn (q + 1) m6; have u0 := NE.n0; have u1 := NE.n1)
    | (go_simp; go_at_call 59; (with_reducible refine (pick_any _ _ _ _ _ n _ H3.drew (by omega) (by omega)).mono ?_); rintro e5 w5 ⟨x5, m5, rfl, a5, b5, -, rfl⟩; have b5 := b5 (by omega); have wx5 : IntKind.i64.wrap (1 + x5) = 1 + x5 := IntWalk.i64_in _ (by omega); have f0 := (NB.drew.readOn q m5).n0; have f1 := (NB.drew.readOn q m5).n1))
  all_goals
    go_wp2_with fail
    refine bodyPost_ret (v := .tuple #[.agg #[.int .i64 n, .slice A es.length c], .int .i64 (1 + x5 + x6 / 19 - x7 / 19)]) (by simp [results, Try.results47, go_sem, *]) rfl ?_
    exact NC.result H5 (by omega) (by omega) (by omega) (by omega) (by omega) (by omega)
end Go.Proofs.Ytmdplmjphadhkaa
