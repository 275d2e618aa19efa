/- The draws for the laws of the first chapter: from a code to a net, and a number. -/
import Derived.Test.YtikmkdonbfngeabDrawsB
import Derived.Test.YtikmkdonbfngeabDrawsC
namespace Go.Proofs.Ytikmkdonbfngeab
open Go.RowKit
set_option maxRecDepth 100000

/-- What a draw of a net leaves. -/
def GotNet (w : World) (e : Ending) (w' : World) : Prop :=
  ∃ (n : Int) (A : Option Addr) (c : Nat) (es : List (Int × Int)), e = .returned (.agg #[.int .i64 n, .slice A es.length c]) ∧ OwnE w' w.heap.size (.slice A es.length c) es ∧ 1 ≤ n ∧ n ≤ 7 ∧ es.length ≤ 20 ∧ Below w.heap.size w w'
def GotNetInt (w : World) (e : Ending) (w' : World) : Prop :=
  ∃ (n : Int) (A : Option Addr) (c : Nat) (es : List (Int × Int)) (s : Int), e = .returned (.tuple #[.agg #[.int .i64 n, .slice A es.length c], .int .i64 s]) ∧ OwnE w' w.heap.size (.slice A es.length c) es ∧ 1 ≤ n ∧ n ≤ 7 ∧ es.length ≤ 20 ∧ -1000 ≤ s ∧ s ≤ 1000 ∧ Below w.heap.size w w'

/-- A result's box at the end: what it held when the call began. -/
theorem tbox {w w1 w2 : World} {t : TypeId} {cs : Array Value} {rb : Nat} (hb : Below (w.alloc (.cells cs t)).heap.size (w.alloc (.cells cs t)) w1) (hg : w1.grownBy w2 (some rb)) (hr : w.heap.size < rb) (i : Nat) :
    w2.cell? ⟨w.heap.size, i, none⟩ = cs[i]? ∧ w2.frozen? ⟨w.heap.size, i, none⟩ = false := by
  have hs := hb.size
  simp only [World.size_alloc] at hs
  have h2 : w2.heap[w.heap.size]? = (w.alloc (.cells cs t)).heap[w.heap.size]? := (hg.block _ (by omega) (by simp; omega)).trans (hb.block _ (by simp))
  exact ⟨(World.cell?_of_block (w := w.alloc (.cells cs t)) h2).trans (by rw [World.cell?_alloc_at _ _ _ _ rfl]), (World.frozen?_of_block (w := w.alloc (.cells cs t)) h2).trans (World.frozen?_alloc_at _ _ _ _ rfl)⟩
theorem tbelow {w w1 w2 : World} {t : TypeId} {cs : Array Value} {rb : Nat} (hb : Below (w.alloc (.cells cs t)).heap.size (w.alloc (.cells cs t)) w1) (hg : w1.grownBy w2 (some rb)) (hr : w.heap.size < rb) : Below w.heap.size w w2 := by
  have hs := hb.size
  simp only [World.size_alloc] at hs
  exact (((Below.refl _ _).alloc (Nat.le_refl _) _).trans (hb.mono (by simp))).trans (below_of_grown hg (by omega) (by omega))

theorem drawPiecesIn_any (A : Option Addr) (l cap : Nat) (w : World) (hb : BytesIn w w.heap.size A l) (hl : l ≤ 1048576) (hc : l ≤ cap) :
    Calls Try.prog 22 #[.slice A l cap] w (GotNetInt w) := by
  have hbox := (Below.refl w.heap.size w).alloc (Nat.le_refl _) (.cells #[.int .i64 0, .slice none 0 0] 25)
  have hb' : BytesIn (w.alloc (.cells #[.int .i64 0, .slice none 0 0] 25)) (w.alloc (.cells #[.int .i64 0, .slice none 0 0] 25)).heap.size A l := (hb.keep fun p hp => hbox.cell hp).more (by simp)
  go_enter Try.func22, Try.ntmps22
  go_wp2_with fail
  refine (open_any _ _ _ _ hb' hl hc).mono ?_
  rintro e1 w1 ⟨rb, B, l1, c1, rfl, H1, hge, hb1⟩
  simp only [World.size_alloc] at hge
  go_wp2_with fail
  refine (l20State_any _ _ _ _ _ _ _ H1 (by omega) (by omega) (by omega)).mono ?_
  rintro e2 w2 ⟨n, A2, c2, es, s, q, rfl, own, n1, n7, hle, s1, s2, H2, hq, hg⟩
  obtain ⟨q0, q1⟩ := tbox hb1 hg (by omega) 0
  obtain ⟨q2, q3⟩ := tbox hb1 hg (by omega) 1
  have hbel := tbelow hb1 hg (by omega)
  have hs := hb1.size
  simp only [World.size_alloc] at hs
  have q0' : w2.cell? ⟨w.heap.size, 0, none⟩ = some (.int .i64 0) := q0
  have q2' : w2.cell? ⟨w.heap.size, 1, none⟩ = some (.slice none 0 0) := q2
  clear q0 q2
  go_wp2_with fail
  refine bodyPost_ret (v := .tuple #[.agg #[.int .i64 n, .slice A2 es.length c2], .int .i64 s]) (by simp [results, Try.results22, go_sem, *]) rfl ?_
  exact ⟨n, A2, c2, es, s, rfl, ((own.more (by omega)).far (fun k hk => by have := (World.ownsRow.lt own k hk).1; simp; omega) _).far (fun k hk => by have := (World.ownsRow.lt own k hk).1; simp; omega) _, n1, n7, hle, s1, s2, (hbel.setCell (by simp) _).setCell (by simp) _⟩

theorem drawWholeOk_any (A : Option Addr) (l cap : Nat) (w : World) (hb : BytesIn w w.heap.size A l) (hl : l ≤ 1048576) (hc : l ≤ cap) :
    Calls Try.prog 29 #[.slice A l cap] w (GotNetInt w) := by
  have hbox := (Below.refl w.heap.size w).alloc (Nat.le_refl _) (.cells #[.int .i64 0, .slice none 0 0] 25)
  have hb' : BytesIn (w.alloc (.cells #[.int .i64 0, .slice none 0 0] 25)) (w.alloc (.cells #[.int .i64 0, .slice none 0 0] 25)).heap.size A l := (hb.keep fun p hp => hbox.cell hp).more (by simp)
  go_enter Try.func29, Try.ntmps29
  go_wp2_with fail
  refine (open_any _ _ _ _ hb' hl hc).mono ?_
  rintro e1 w1 ⟨rb, B, l1, c1, rfl, H1, hge, hb1⟩
  simp only [World.size_alloc] at hge
  go_wp2_with fail
  refine (l20State_any _ _ _ _ _ _ _ H1 (by omega) (by omega) (by omega)).mono ?_
  rintro e2 w2 ⟨n, A2, c2, es, s, q, rfl, own, n1, n7, hle, s1, s2, H2, hq, hg⟩
  obtain ⟨q0, q1⟩ := tbox hb1 hg (by omega) 0
  obtain ⟨q2, q3⟩ := tbox hb1 hg (by omega) 1
  have hbel := tbelow hb1 hg (by omega)
  have hs := hb1.size
  simp only [World.size_alloc] at hs
  have q0' : w2.cell? ⟨w.heap.size, 0, none⟩ = some (.int .i64 0) := q0
  have q2' : w2.cell? ⟨w.heap.size, 1, none⟩ = some (.slice none 0 0) := q2
  clear q0 q2
  go_wp2_with fail
  refine bodyPost_ret (v := .tuple #[.agg #[.int .i64 n, .slice A2 es.length c2], .int .i64 s]) (by simp [results, Try.results29, go_sem, *]) rfl ?_
  exact ⟨n, A2, c2, es, s, rfl, ((own.more (by omega)).far (fun k hk => by have := (World.ownsRow.lt own k hk).1; simp; omega) _).far (fun k hk => by have := (World.ownsRow.lt own k hk).1; simp; omega) _, n1, n7, hle, s1, s2, (hbel.setCell (by simp) _).setCell (by simp) _⟩

theorem drawRankOf_any (A : Option Addr) (l cap : Nat) (w : World) (hb : BytesIn w w.heap.size A l) (hl : l ≤ 1048576) (hc : l ≤ cap) :
    Calls Try.prog 32 #[.slice A l cap] w (GotNetInt w) := by
  have hbox := (Below.refl w.heap.size w).alloc (Nat.le_refl _) (.cells #[.int .i64 0, .slice none 0 0] 25)
  have hb' : BytesIn (w.alloc (.cells #[.int .i64 0, .slice none 0 0] 25)) (w.alloc (.cells #[.int .i64 0, .slice none 0 0] 25)).heap.size A l := (hb.keep fun p hp => hbox.cell hp).more (by simp)
  go_enter Try.func32, Try.ntmps32
  go_wp2_with fail
  refine (open_any _ _ _ _ hb' hl hc).mono ?_
  rintro e1 w1 ⟨rb, B, l1, c1, rfl, H1, hge, hb1⟩
  simp only [World.size_alloc] at hge
  go_wp2_with fail
  refine (l20State_any _ _ _ _ _ _ _ H1 (by omega) (by omega) (by omega)).mono ?_
  rintro e2 w2 ⟨n, A2, c2, es, s, q, rfl, own, n1, n7, hle, s1, s2, H2, hq, hg⟩
  obtain ⟨q0, q1⟩ := tbox hb1 hg (by omega) 0
  obtain ⟨q2, q3⟩ := tbox hb1 hg (by omega) 1
  have hbel := tbelow hb1 hg (by omega)
  have hs := hb1.size
  simp only [World.size_alloc] at hs
  have q0' : w2.cell? ⟨w.heap.size, 0, none⟩ = some (.int .i64 0) := q0
  have q2' : w2.cell? ⟨w.heap.size, 1, none⟩ = some (.slice none 0 0) := q2
  clear q0 q2
  go_wp2_with fail
  refine bodyPost_ret (v := .tuple #[.agg #[.int .i64 n, .slice A2 es.length c2], .int .i64 s]) (by simp [results, Try.results32, go_sem, *]) rfl ?_
  exact ⟨n, A2, c2, es, s, rfl, ((own.more (by omega)).far (fun k hk => by have := (World.ownsRow.lt own k hk).1; simp; omega) _).far (fun k hk => by have := (World.ownsRow.lt own k hk).1; simp; omega) _, n1, n7, hle, s1, s2, (hbel.setCell (by simp) _).setCell (by simp) _⟩

theorem drawRingFreeOk_any (A : Option Addr) (l cap : Nat) (w : World) (hb : BytesIn w w.heap.size A l) (hl : l ≤ 1048576) (hc : l ≤ cap) :
    Calls Try.prog 35 #[.slice A l cap] w (GotNetInt w) := by
  have hbox := (Below.refl w.heap.size w).alloc (Nat.le_refl _) (.cells #[.int .i64 0, .slice none 0 0] 25)
  have hb' : BytesIn (w.alloc (.cells #[.int .i64 0, .slice none 0 0] 25)) (w.alloc (.cells #[.int .i64 0, .slice none 0 0] 25)).heap.size A l := (hb.keep fun p hp => hbox.cell hp).more (by simp)
  go_enter Try.func35, Try.ntmps35
  go_wp2_with fail
  refine (open_any _ _ _ _ hb' hl hc).mono ?_
  rintro e1 w1 ⟨rb, B, l1, c1, rfl, H1, hge, hb1⟩
  simp only [World.size_alloc] at hge
  go_wp2_with fail
  refine (l20State_any _ _ _ _ _ _ _ H1 (by omega) (by omega) (by omega)).mono ?_
  rintro e2 w2 ⟨n, A2, c2, es, s, q, rfl, own, n1, n7, hle, s1, s2, H2, hq, hg⟩
  obtain ⟨q0, q1⟩ := tbox hb1 hg (by omega) 0
  obtain ⟨q2, q3⟩ := tbox hb1 hg (by omega) 1
  have hbel := tbelow hb1 hg (by omega)
  have hs := hb1.size
  simp only [World.size_alloc] at hs
  have q0' : w2.cell? ⟨w.heap.size, 0, none⟩ = some (.int .i64 0) := q0
  have q2' : w2.cell? ⟨w.heap.size, 1, none⟩ = some (.slice none 0 0) := q2
  clear q0 q2
  go_wp2_with fail
  refine bodyPost_ret (v := .tuple #[.agg #[.int .i64 n, .slice A2 es.length c2], .int .i64 s]) (by simp [results, Try.results35, go_sem, *]) rfl ?_
  exact ⟨n, A2, c2, es, s, rfl, ((own.more (by omega)).far (fun k hk => by have := (World.ownsRow.lt own k hk).1; simp; omega) _).far (fun k hk => by have := (World.ownsRow.lt own k hk).1; simp; omega) _, n1, n7, hle, s1, s2, (hbel.setCell (by simp) _).setCell (by simp) _⟩

theorem drawThereOf_any (A : Option Addr) (l cap : Nat) (w : World) (hb : BytesIn w w.heap.size A l) (hl : l ≤ 1048576) (hc : l ≤ cap) :
    Calls Try.prog 15 #[.slice A l cap] w (GotNetInt w) := by
  have hbox := (Below.refl w.heap.size w).alloc (Nat.le_refl _) (.cells #[.int .i64 0, .slice none 0 0] 25)
  have hb' : BytesIn (w.alloc (.cells #[.int .i64 0, .slice none 0 0] 25)) (w.alloc (.cells #[.int .i64 0, .slice none 0 0] 25)).heap.size A l := (hb.keep fun p hp => hbox.cell hp).more (by simp)
  go_enter Try.func15, Try.ntmps15
  go_wp2_with fail
  refine (open_any _ _ _ _ hb' hl hc).mono ?_
  rintro e1 w1 ⟨rb, B, l1, c1, rfl, H1, hge, hb1⟩
  simp only [World.size_alloc] at hge
  go_wp2_with fail
  refine (l20State_any _ _ _ _ _ _ _ H1 (by omega) (by omega) (by omega)).mono ?_
  rintro e2 w2 ⟨n, A2, c2, es, s, q, rfl, own, n1, n7, hle, s1, s2, H2, hq, hg⟩
  obtain ⟨q0, q1⟩ := tbox hb1 hg (by omega) 0
  obtain ⟨q2, q3⟩ := tbox hb1 hg (by omega) 1
  have hbel := tbelow hb1 hg (by omega)
  have hs := hb1.size
  simp only [World.size_alloc] at hs
  have q0' : w2.cell? ⟨w.heap.size, 0, none⟩ = some (.int .i64 0) := q0
  have q2' : w2.cell? ⟨w.heap.size, 1, none⟩ = some (.slice none 0 0) := q2
  clear q0 q2
  go_wp2_with fail
  refine bodyPost_ret (v := .tuple #[.agg #[.int .i64 n, .slice A2 es.length c2], .int .i64 s]) (by simp [results, Try.results15, go_sem, *]) rfl ?_
  exact ⟨n, A2, c2, es, s, rfl, ((own.more (by omega)).far (fun k hk => by have := (World.ownsRow.lt own k hk).1; simp; omega) _).far (fun k hk => by have := (World.ownsRow.lt own k hk).1; simp; omega) _, n1, n7, hle, s1, s2, (hbel.setCell (by simp) _).setCell (by simp) _⟩

end Go.Proofs.Ytikmkdonbfngeab
