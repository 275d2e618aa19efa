/- The draws for the laws of the first chapter: from a code to a net, and a number. -/
import Derived.Test.YtaplmlbpleilfaaDrawsB
import Derived.Test.YtaplmlbpleilfaaDrawsC
namespace Go.Proofs.Ytaplmlbpleilfaa
open Go.RowKit
set_option maxRecDepth 100000

/-- What a draw of a net leaves. -/
def GotNet (w : World) (e : Ending) (w' : World) : Prop :=
  ∃ (n : Int) (A : Option Addr) (c : Nat) (es : List (Int × Int)), e = .returned (.agg #[.int .i64 n, .slice A es.length c]) ∧ OwnE w' w.heap.size (.slice A es.length c) es ∧ 1 ≤ n ∧ n ≤ 7 ∧ es.length ≤ 20 ∧ Below w.heap.size w w'
def GotNetInt (w : World) (e : Ending) (w' : World) : Prop :=
  ∃ (n : Int) (A : Option Addr) (c : Nat) (es : List (Int × Int)) (s : Int), e = .returned (.tuple #[.agg #[.int .i64 n, .slice A es.length c], .int .i64 s]) ∧ OwnE w' w.heap.size (.slice A es.length c) es ∧ 1 ≤ n ∧ n ≤ 7 ∧ es.length ≤ 20 ∧ -1000 ≤ s ∧ s ≤ 1000 ∧ Below w.heap.size w w'

/-- A result's box at the end: what it held when the call began. -/
theorem tbox {w w1 w2 : World} {t : TypeId} {cs : Array Value} {rb : Nat} (hb : Below (w.alloc (.cells cs t)).heap.size (w.alloc (.cells cs t)) w1) (hg : w1.grownBy w2 (some rb)) (hr : w.heap.size < rb) (i : Nat) :
    w2.cell? ⟨w.heap.size, i, none⟩ = cs[i]? ∧ w2.frozen? ⟨w.heap.size, i, none⟩ = false := by
  have hs := hb.size
  simp only [World.size_alloc] at hs
  have h2 : w2.heap[w.heap.size]? = (w.alloc (.cells cs t)).heap[w.heap.size]? := (hg.block _ (by omega) (by simp; omega)).trans (hb.block _ (by simp))
  exact ⟨(World.cell?_of_block (w := w.alloc (.cells cs t)) h2).trans (by rw [World.cell?_alloc_at _ _ _ _ rfl]), (World.frozen?_of_block (w := w.alloc (.cells cs t)) h2).trans (World.frozen?_alloc_at _ _ _ _ rfl)⟩
theorem tbelow {w w1 w2 : World} {t : TypeId} {cs : Array Value} {rb : Nat} (hb : Below (w.alloc (.cells cs t)).heap.size (w.alloc (.cells cs t)) w1) (hg : w1.grownBy w2 (some rb)) (hr : w.heap.size < rb) : Below w.heap.size w w2 := by
  have hs := hb.size
  simp only [World.size_alloc] at hs
  exact (((Below.refl _ _).alloc (Nat.le_refl _) _).trans (hb.mono (by simp))).trans (below_of_grown hg (by omega) (by omega))

end Go.Proofs.Ytaplmlbpleilfaa
