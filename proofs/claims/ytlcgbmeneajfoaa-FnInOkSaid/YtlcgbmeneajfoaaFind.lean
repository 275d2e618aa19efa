/- l2Find of the reference: for each node one that stands for its piece. -/
import Derived.Test.YtlcgbmeneajfoaaPiecesOf
import Derived.Deep.AppendLies
namespace Go.Proofs.Ytlcgbmeneajfoaa
open Go.RowKit
set_option maxRecDepth 100000

theorem int_info : (Try.prog.info? 3).map (fun i => (i.zero, i.size, i.bytes)) = some (some (.int .i64 0), 1, 8) := by kernel_rfl

/-- The slice v, of the call's own, holds p at 0 .. n-1. -/
def OwnN (w : World) (base : Nat) (v : Value) (p : Nat → Nat) (n : Nat) : Prop := w.ownsRow base 3 1 v n (rowN p n)
theorem OwnN.cell {w : World} {base g n c : Nat} {p : Nat → Nat} (h : OwnN w base (.slice (some ⟨g, 0, none⟩) n c) p n) {k : Nat} (hk : k < n) : w.cell? ⟨g, k, none⟩ = some (.int .i64 (p k : Nat)) :=
  (World.ownsRow.cellAt h k (by omega)).trans (rowN_get p hk)
theorem OwnN.frozen {w : World} {base g n c : Nat} {p : Nat → Nat} (h : OwnN w base (.slice (some ⟨g, 0, none⟩) n c) p n) (k : Nat) : w.frozen? ⟨g, k, none⟩ = false := World.ownsRow.frozenAt h k
theorem OwnN.store {w : World} {base g n c : Nat} {p : Nat → Nat} (h : OwnN w base (.slice (some ⟨g, 0, none⟩) n c) p n) (k v : Nat) : OwnN (w.setCell ⟨g, k, none⟩ (.int .i64 (v : Nat))) base (.slice (some ⟨g, 0, none⟩) n c) (upd p k v) n := by
  have h1 := (World.ownsRow.stored h k (.int .i64 (v : Nat))).1
  unfold OwnN
  rw [← rowN_set]; exact h1
theorem OwnN.ge {w : World} {base g n c : Nat} {p : Nat → Nat} (h : OwnN w base (.slice (some ⟨g, 0, none⟩) n c) p n) : base ≤ g ∧ g < w.heap.size := World.ownsRow.lt h g rfl
theorem OwnN.below {w w' : World} {base B g n c : Nat} {p : Nat → Nat} (h : OwnN w base (.slice (some ⟨g, 0, none⟩) n c) p n) (hb : Below B w w') (hB : g < B) : OwnN w' base (.slice (some ⟨g, 0, none⟩) n c) p n := by
  rcases h.2 with ⟨hv, _⟩ | ⟨g', cap, cur, hv, hb', hh, h3, h4, h5, h6⟩
  · cases hv
  · have hg : g' = g := by injection hv with h1 _ _; injection h1 with h1; injection h1 with h1; exact h1.symm
    subst hg
    exact ⟨h.1, .inr ⟨g', cap, cur, hv, hb', (hb.block g' hB).trans hh, h3, h4, h5, h6⟩⟩
theorem OwnN.more {w : World} {base base' g n c : Nat} {p : Nat → Nat} (h : OwnN w base (.slice (some ⟨g, 0, none⟩) n c) p n) (hB : base' ≤ base) : OwnN w base' (.slice (some ⟨g, 0, none⟩) n c) p n := by
  rcases h.2 with ⟨hv, _⟩ | ⟨g', cap, cur, hv, hb', hh⟩
  · cases hv
  · exact ⟨h.1, .inr ⟨g', cap, cur, hv, by omega, hh⟩⟩
theorem rowN_succ (p : Nat → Nat) (n : Nat) : rowN p n ++ [.int .i64 (p n : Nat)] = rowN p (n + 1) := by simp [rowN, List.range_succ]
theorem Rep.stay {E : Nat → Nat × Nat} {T : Nat → Bool} {k n a b : Nat} {R : Nat → Nat} (h : Rep E T k n R) (hE : E k = (a, b)) (hab : R a = R b) : Rep E T (k + 1) n R := by
  refine ⟨h.idem, ?_, fun F hF => h.least F fun i hi => hF i (by omega), h.range⟩
  intro i hi ht
  by_cases hik : i = k
  · subst hik; rw [hE]; exact hab
  · exact h.joins i (by omega) ht
theorem tmod_of (m k : Nat) : ((m : Int) / 2 ^ k).tmod 2 = ((m / 2 ^ k % 2 : Nat) : Int) := by
  have : ((m : Int) / 2 ^ k) = ((m / 2 ^ k : Nat) : Int) := by rw [Int.natCast_ediv, Int.natCast_pow]; rfl
  rw [this, Int.tmod_eq_emod_of_nonneg (Int.natCast_nonneg _)]; rfl
theorem Rep.mm {E : Nat → Nat × Nat} {T : Nat → Bool} {k n a b : Nat} {R : Nat → Nat} (h : Rep E T k n R) (ha : 1 ≤ a ∧ a ≤ n) (hb : 1 ≤ b ∧ b ≤ n) (hE : E k = (a, b)) (ht : T k = true) :
    ∃ G, Rep E T (k + 1) n G ∧ ∀ z, G z = if R z = max (R a) (R b) then min (R a) (R b) else R z := by
  by_cases hlt : R a < R b
  · refine ⟨_, h.both ha (.inl hE) ht, fun z => ?_⟩
    rw [show max (R a) (R b) = R b by omega, show min (R a) (R b) = R a by omega]; rfl
  · refine ⟨_, h.both hb (.inr hE) ht, fun z => ?_⟩
    rw [show max (R a) (R b) = R a by omega, show min (R a) (R b) = R b by omega]; rfl
theorem bit_of (m k : Nat) : m.testBit k = decide (m / 2 ^ k % 2 = 1) := by rw [Nat.testBit_eq_decide_div_mod_eq]

end Go.Proofs.Ytlcgbmeneajfoaa
