/- Areas of the program: tables of steps that lie in memory, spots, sets of bits. -/
import Derived.Test.YtcmomghlepmogaaWalk7
import Derived.Test.YtcmomghlepmogaaRow
import Derived.Test.YtcmomghlepmogaaClass
import Derived.Lib.TrailingZeros
import Derived.Deep.QuietTactic
import Derived.BigQuiet
import Derived.BigRegion
import Derived.Handy
namespace Go.Proofs.Ytcmomghlepmogaa
open Go.RowKit
set_option maxRecDepth 100000

/-- A table of integers lies in a block. -/
def TabAt (w : World) (g : Nat) (k : IntKind) (zs : List Int) : Prop := g < w.heap.size ∧ ∀ i, i < zs.length → w.cell? ⟨g, i, none⟩ = some (.int k (zs.getD i 0))
theorem TabAt.on {w w' : World} {b g : Nat} {k : IntKind} {zs : List Int} (h : TabAt w g k zs) (hb : Below b w w') (hg : g < b) : TabAt w' g k zs :=
  ⟨Nat.lt_of_lt_of_le h.1 hb.size, fun i hi => (hb.cell (p := ⟨g, i, none⟩) hg).trans (h.2 i hi)⟩
def flatOf (ps : List (Int × Int)) : List Int := ps.flatMap fun p => [p.1, p.2]
theorem shl_small : ∀ k, k ≤ 15 → IntKind.u64.wrap (2 ^ k) = ((2 ^ k : Nat) : Int) := by decide
theorem tz_key : ∀ x : Nat, x < 4096 → 0 < x → Go.bits .and .u64 (x : Int) (IntKind.u64.wrap (-(x : Int))) = ((2 ^ Lib.ctz 12 x : Nat) : Int) ∧ Lib.ctz 12 x < 12 ∧ x.testBit (Lib.ctz 12 x) = true := by decide +kernel
end Go.Proofs.Ytcmomghlepmogaa
