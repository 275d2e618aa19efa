/- toIntS, eqIntS, sameInts, markIntS and heldIntS of the laws. -/
import Derived.Test.YtgacgaidlbkkmaaRow
import Derived.Test.YtgacgaidlbkkmaaEdgesAt
namespace Go.Proofs.Ytgacgaidlbkkmaa
open Go.RowKit
set_option maxRecDepth 100000

def marksI (k : Int) (m : Nat) : List Int := rowL (fun i => k + (i : Int)) m
theorem marksI_length (k : Int) (m : Nat) : (marksI k m).length = m := rowL_length _ _
theorem marksI_get (k : Int) (m i : Nat) (h : i < m) : (marksI k m)[i]? = some (k + (i : Int)) := rowL_get _ h
def MarkedI (w : World) (base : Nat) (v : Value) (k : Int) (m : Nat) (e : Ending) (w' : World) : Prop :=
  e = .returned (.int .i64 (k + (m : Int))) ∧ OwnI w' base v (marksI k m) ∧ w.grownBy w' v.ownBlock

end Go.Proofs.Ytgacgaidlbkkmaa
