/- sameFamily of the laws, of two families that read alike. -/
import Derived.Test.YtmdmmebekicpkaaRowEq
import Derived.Test.YtmdmmebekicpkaaFamO
namespace Go.Proofs.Ytmdmmebekicpkaa
open Go.RowKit
set_option maxRecDepth 100000

theorem sameFamily_self (t : Int) (A B : Option Addr) (c d m : Nat) (xs : List Int) (w : World) (hxs : IntsIn w w.heap.size A xs) (hys : IntsIn w w.heap.size B xs) (hm : xs.length = m) (hl : m ≤ 1048576) :
    Calls Try.prog 18 #[.agg #[.int .i64 t, .slice A m c], .agg #[.int .i64 t, .slice B m d]] w fun e w' => e = .returned (.bool true) ∧ Below w.heap.size w w' := by
  have hes' := ((hxs.alloc (Nat.le_refl _) (.cells #[.int .i64 t, .slice A m c] 27)).alloc (by simp) (.cells #[.int .i64 t, .slice B m d] 27))
  have hfs' := ((hys.alloc (Nat.le_refl _) (.cells #[.int .i64 t, .slice A m c] 27)).alloc (by simp) (.cells #[.int .i64 t, .slice B m d] 27))
  have hbw : Below w.heap.size w ((w.alloc (.cells #[.int .i64 t, .slice A m c] 27)).alloc (.cells #[.int .i64 t, .slice B m d] 27)) := by go_grown
  have H := Lib.hid hbw
  have HM := Lib.hid hm
  clear hbw hm
  go_enter Try.func18, Try.ntmps18
  go_wp2_with (go_at_call 47; refine (sameInts_self _ _ _ _ _ _ _ (hes'.more (by simp; omega)) (hfs'.more (by simp; omega)) HM.out hl).mono ?_; rintro e1 w1 ⟨rfl, hb1⟩)
  go_returns
  exact ⟨rfl, H.out.trans (hb1.mono (by simp; omega))⟩
end Go.Proofs.Ytmdmmebekicpkaa
