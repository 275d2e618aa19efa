/- The draws of a net with two nodes, for paths and cuts. -/
import Derived.Test.YtlcgbmeneajfoabDrawT
namespace Go.Proofs.Ytlcgbmeneajfoab
open Go.RowKit
set_option maxRecDepth 100000

theorem drawPathsOf_any (A : Option Addr) (l cap : Nat) (w : World) (hb : BytesIn w w.heap.size A l) (hl : l ≤ 1048576) (hc : l ≤ cap) :
    Calls Try.prog 46 #[.slice A l cap] w (GotTerm w) := by
  have hbox := (Below.refl w.heap.size w).alloc (Nat.le_refl _) (.cells #[.int .i64 0, .slice none 0 0] 45)
  have hb' : BytesIn (w.alloc (.cells #[.int .i64 0, .slice none 0 0] 45)) (w.alloc (.cells #[.int .i64 0, .slice none 0 0] 45)).heap.size A l := (hb.keep fun p hp => hbox.cell hp).more (by simp)
  go_enter Try.func46, Try.ntmps46
  go_wp2_with fail
  refine (open_any _ _ _ _ hb' hl hc).mono ?_
  rintro e1 w1 ⟨rb, B, l1, c1, rfl, H1, hge, hb1⟩
  simp only [World.size_alloc] at hge
  go_wp2_with fail
  refine (l20Terminals_any _ _ _ _ _ _ H1 (by omega)).mono ?_
  rintro e2 w2 ⟨n, A2, c2, es, a, b, q, rfl, own, n1, n7, hle, a1, a2, b1, b2, H2, hg⟩
  obtain ⟨q0, q1⟩ := tbox hb1 hg (by omega) 0
  obtain ⟨q2, q3⟩ := tbox hb1 hg (by omega) 1
  have hbel := tbelow hb1 hg (by omega)
  have hs := hb1.size
  simp only [World.size_alloc] at hs
  have q0' : w2.cell? ⟨w.heap.size, 0, none⟩ = some (.int .i64 0) := q0
  have q2' : w2.cell? ⟨w.heap.size, 1, none⟩ = some (.slice none 0 0) := q2
  clear q0 q2
  go_wp2_with fail
  refine bodyPost_ret (v := .tuple #[.agg #[.int .i64 n, .slice A2 es.length c2], .int .i64 a, .int .i64 b]) (by simp [results, Try.results46, go_sem, *]) rfl ?_
  exact ⟨n, A2, c2, es, a, b, rfl, ((own.more (by omega)).far (fun k hk => by have := (World.ownsRow.lt own k hk).1; simp; omega) _).far (fun k hk => by have := (World.ownsRow.lt own k hk).1; simp; omega) _, n1, n7, hle, a1, a2, b1, b2, (hbel.setCell (by simp) _).setCell (by simp) _⟩

theorem drawCutsOf_any (A : Option Addr) (l cap : Nat) (w : World) (hb : BytesIn w w.heap.size A l) (hl : l ≤ 1048576) (hc : l ≤ cap) :
    Calls Try.prog 55 #[.slice A l cap] w (GotTerm w) := by
  have hbox := (Below.refl w.heap.size w).alloc (Nat.le_refl _) (.cells #[.int .i64 0, .slice none 0 0] 45)
  have hb' : BytesIn (w.alloc (.cells #[.int .i64 0, .slice none 0 0] 45)) (w.alloc (.cells #[.int .i64 0, .slice none 0 0] 45)).heap.size A l := (hb.keep fun p hp => hbox.cell hp).more (by simp)
  go_enter Try.func55, Try.ntmps55
  go_wp2_with fail
  refine (open_any _ _ _ _ hb' hl hc).mono ?_
  rintro e1 w1 ⟨rb, B, l1, c1, rfl, H1, hge, hb1⟩
  simp only [World.size_alloc] at hge
  go_wp2_with fail
  refine (l20Terminals_any _ _ _ _ _ _ H1 (by omega)).mono ?_
  rintro e2 w2 ⟨n, A2, c2, es, a, b, q, rfl, own, n1, n7, hle, a1, a2, b1, b2, H2, hg⟩
  obtain ⟨q0, q1⟩ := tbox hb1 hg (by omega) 0
  obtain ⟨q2, q3⟩ := tbox hb1 hg (by omega) 1
  have hbel := tbelow hb1 hg (by omega)
  have hs := hb1.size
  simp only [World.size_alloc] at hs
  have q0' : w2.cell? ⟨w.heap.size, 0, none⟩ = some (.int .i64 0) := q0
  have q2' : w2.cell? ⟨w.heap.size, 1, none⟩ = some (.slice none 0 0) := q2
  clear q0 q2
  go_wp2_with fail
  refine bodyPost_ret (v := .tuple #[.agg #[.int .i64 n, .slice A2 es.length c2], .int .i64 a, .int .i64 b]) (by simp [results, Try.results55, go_sem, *]) rfl ?_
  exact ⟨n, A2, c2, es, a, b, rfl, ((own.more (by omega)).far (fun k hk => by have := (World.ownsRow.lt own k hk).1; simp; omega) _).far (fun k hk => by have := (World.ownsRow.lt own k hk).1; simp; omega) _, n1, n7, hle, a1, a2, b1, b2, (hbel.setCell (by simp) _).setCell (by simp) _⟩

end Go.Proofs.Ytlcgbmeneajfoab
