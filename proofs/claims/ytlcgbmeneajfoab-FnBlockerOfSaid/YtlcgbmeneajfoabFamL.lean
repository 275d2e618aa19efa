/- Families in memory: sz, to, eq, mark, held of the laws. -/
import Derived.Test.YtlcgbmeneajfoabObj
namespace Go.Proofs.Ytlcgbmeneajfoab
open Go.RowKit
set_option maxRecDepth 100000

/-- A family that has been made: its row of its own. -/
def MadeFam (w : World) (t : Int) (xs : List Int) (e : Ending) (w' : World) : Prop :=
  ∃ A c, e = .returned (.agg #[.int .i64 t, .slice A xs.length c]) ∧ OwnI w' w.heap.size (.slice A xs.length c) xs ∧ Below w.heap.size w w'
theorem eqFamily_self (t : Int) (A B : Option Addr) (c d m : Nat) (xs : List Int) (w : World) (hxs : IntsIn w w.heap.size A xs) (hys : IntsIn w w.heap.size B xs) (hm : xs.length = m) (hl : m ≤ 1048576) :
    Calls Try.prog 37 #[.agg #[.int .i64 t, .slice A m c], .agg #[.int .i64 t, .slice B m d]] w fun e w' => e = .returned (.bool true) ∧ Below w.heap.size w w' := by
  have hes' := ((hxs.alloc (Nat.le_refl _) (.cells #[.int .i64 t, .slice A m c] 25)).alloc (by simp) (.cells #[.int .i64 t, .slice B m d] 25))
  have hfs' := ((hys.alloc (Nat.le_refl _) (.cells #[.int .i64 t, .slice A m c] 25)).alloc (by simp) (.cells #[.int .i64 t, .slice B m d] 25))
  have hbw : Below w.heap.size w ((w.alloc (.cells #[.int .i64 t, .slice A m c] 25)).alloc (.cells #[.int .i64 t, .slice B m d] 25)) := by go_grown
  have H := Lib.hid hbw
  have HM := Lib.hid hm
  clear hbw hm
  go_enter Try.func37, Try.ntmps37
  go_wp2_with (go_at_call 52; refine (eqIntS_self _ _ _ _ _ _ _ (hes'.more (by simp; omega)) (hfs'.more (by simp; omega)) HM.out hl).mono ?_; rintro e1 w1 ⟨rfl, hb1⟩)
  go_returns
  exact ⟨rfl, H.out.trans (hb1.mono (by simp; omega))⟩

theorem markFamily_any (t : Int) (A : Option Addr) (c base m : Nat) (xs : List Int) (k : Int) (w : World) (own : OwnI w base (.slice A m c) xs) (hl : m ≤ 1048576) (k0 : 0 ≤ k) (k1 : k ≤ 4194304) :
    Calls Try.prog 40 #[.agg #[.int .i64 t, .slice A m c], .int .i64 k] w (MarkedI w base (.slice A m c) k m) := by
  have hbox := (Below.refl w.heap.size w).alloc (Nat.le_refl _) (.cells #[.int .i64 t, .slice A m c] 25)
  have own' := own.below hbox own.lt
  go_enter Try.func40, Try.ntmps40
  go_wp2_with fail
  refine (markIntS_any _ _ _ _ _ _ _ own' hl k0 k1).mono ?_
  rintro e1 w1 ⟨rfl, own1, hg1⟩
  go_wp2_with fail
  go_returns
  exact ⟨rfl, own1, ⟨hg1.os, hg1.tape, hg1.output, Nat.le_trans hbox.size hg1.size, fun i hi hne => (hg1.block i (by simp; omega) hne).trans (hbox.block i hi)⟩⟩
theorem heldFamily_any (t : Int) (A : Option Addr) (c m : Nat) (k : Int) (w : World) (hes : IntsIn w w.heap.size A (marksI k m)) (hl : m ≤ 1048576) (k0 : 0 ≤ k) (k1 : k ≤ 4194304) :
    Calls Try.prog 41 #[.agg #[.int .i64 t, .slice A m c], .int .i64 k] w fun e w' => e = .returned (.int .i64 (k + (m : Int))) ∧ Below w.heap.size w w' := by
  have hbox := (Below.refl w.heap.size w).alloc (Nat.le_refl _) (.cells #[.int .i64 t, .slice A m c] 25)
  have hes' := (hes.below hbox (Nat.le_refl _)).more hbox.size
  go_enter Try.func41, Try.ntmps41
  go_wp2_with fail
  refine (heldIntS_any _ _ _ _ _ hes' hl k0 k1).mono ?_
  rintro e1 w1 ⟨rfl, rfl⟩
  go_wp2_with fail
  go_returns
  exact ⟨rfl, hbox⟩
end Go.Proofs.Ytlcgbmeneajfoab
