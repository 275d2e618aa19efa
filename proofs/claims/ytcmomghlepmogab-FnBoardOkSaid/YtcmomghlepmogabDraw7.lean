/- The draws of chapter 7: boards, cells, grids, edges. -/
import Derived.Test.YtcmomghlepmogabDraws
import Derived.Test.YtcmomghlepmogabSpec7d
namespace Go.Proofs.Ytcmomghlepmogab
open Go.RowKit
set_option maxRecDepth 100000

theorem wrap64_small {N : Nat} (h : N ≤ 4096) : wrap64 (N : Int) = (N : Int) := by unfold wrap64; omega

def l20BoardGot (w : World) (rb : Nat) (B : Option Addr) (l cap p : Nat) (e : Ending) (w' : World) : Prop :=
  ∃ c r : Int, e = .returned (.tuple #[.int .i64 c, .int .i64 r]) ∧ 1 ≤ c ∧ c ≤ 5 ∧ 0 ≤ r ∧ r ≤ 3 ∧ Rd w' rb B l cap (p + 1 + 1 + 1 + 1) ∧ w.grownBy w' (some rb)
def l20GridGot (w : World) (rb : Nat) (B : Option Addr) (l cap p : Nat) (e : Ending) (w' : World) : Prop :=
  ∃ c r : Int, e = .returned (.tuple #[.int .i64 c, .int .i64 r]) ∧ 1 ≤ c ∧ c ≤ 5 ∧ 0 ≤ r ∧ r ≤ 3 ∧ Rd w' rb B l cap (p + 1 + 1 + 1 + 1) ∧ w.grownBy w' (some rb)
theorem drawBoardOk_any (A : Option Addr) (l cap : Nat) (w : World) (hb : BytesIn w w.heap.size A l) (hl : l ≤ 1048576) (hc : l ≤ cap) :
    Calls Try.prog 5 #[.slice A l cap] w fun e w' => ∃ c r : Int, e = .returned (.tuple #[.int .i64 c, .int .i64 r]) ∧ -1 ≤ c ∧ c ≤ 5 ∧ -1 ≤ r ∧ r ≤ 4 ∧ Below w.heap.size w w' := by
  go_enter Try.func5, Try.ntmps5
  go_wp2_with fail
  refine (open_any _ _ _ _ hb hl hc).mono ?_
  rintro e0 w0 ⟨rb, B, l1, c1, rfl, H0, hge, G0⟩
  go_wp2_with fail
  refine (pick_any _ _ _ _ _ _ _ H0 (by omega) (by omega)).mono ?_
  rintro e1 w1 ⟨x1, m1, rfl, a1, b1, -, rfl⟩
  have b1 := b1 (by omega)
  have H1 := H0.next m1
  have G1 := G0.trans (below_of_grown (readOn_grown w0 rb (0) m1) G0.size hge)
  have wa1 : IntKind.i64.wrap (x1 - 1) = x1 - 1 := IntWalk.i64_in _ (by omega)
  generalize readOn w0 rb (0) m1 = v1 at *
  go_wp2_with fail
  refine (pick_any _ _ _ _ _ _ _ H1 (by omega) (by omega)).mono ?_
  rintro e2 w2 ⟨x2, m2, rfl, a2, b2, -, rfl⟩
  have b2 := b2 (by omega)
  have H2 := H1.next m2
  have G2 := G1.trans (below_of_grown (readOn_grown v1 rb (0 + 1) m2) G1.size hge)
  have wa2 : IntKind.i64.wrap (x2 - 1) = x2 - 1 := IntWalk.i64_in _ (by omega)
  generalize readOn v1 rb (0 + 1) m2 = v2 at *
  go_wp2_with fail
  refine bodyPost_ret (v := .tuple #[.int .i64 (x1 - 1), .int .i64 (x2 - 1)]) (by simp [results, Try.results5, go_sem, *]) rfl ?_
  exact ⟨_, _, rfl, by omega, by omega, by omega, by omega, G2⟩

def l20CellsGot (w : World) (rb : Nat) (B : Option Addr) (l cap : Nat) (e : Ending) (w' : World) : Prop :=
  ∃ (s c r : Int) (q : Nat), e = .returned (.tuple #[.int .i64 s, .int .i64 c, .int .i64 r]) ∧ -40000 ≤ s ∧ s ≤ 80000 ∧ 1 ≤ c ∧ c ≤ 5 ∧ 0 ≤ r ∧ r ≤ 3 ∧ Rd w' rb B l cap q ∧ w.grownBy w' (some rb)
theorem two_pow_step {Z k : Nat} {x : Int} (hZ : Z < 2 ^ k) (h0 : 0 ≤ x) (h1 : x < 2) : ∃ Z2 : Nat, (Z : Int) * 2 + x = Z2 ∧ Z2 < 2 ^ (k + 1) := by
  refine ⟨Z * 2 + x.toNat, by omega, ?_⟩
  rw [Nat.pow_succ]; omega

def l20EdgesGot (w : World) (rb : Nat) (B : Option Addr) (l cap : Nat) (e : Ending) (w' : World) : Prop :=
  ∃ (s c r : Int) (q : Nat), e = .returned (.tuple #[.int .i64 s, .int .i64 c, .int .i64 r]) ∧ -40000 ≤ s ∧ s ≤ 80000 ∧ 1 ≤ c ∧ c ≤ 5 ∧ 0 ≤ r ∧ r ≤ 3 ∧ Rd w' rb B l cap q ∧ w.grownBy w' (some rb)

end Go.Proofs.Ytcmomghlepmogab
