/- WithoutEdge of the program. -/
import Derived.Test.YtdacfeebidhgnabConcat
import Derived.Test.YtdacfeebidhgnabEdgesAt
import Derived.Deep.RegionHeld3
import Derived.Deep.RegionLaw
namespace Go.Proofs.Ytdacfeebidhgnab
open Go.RowKit
set_option maxRecDepth 100000

def wN (n : Int) (es : List (Int × Int)) (a : Int) : Int := if atOkB n es a = true then n else 0
def wE (n : Int) (es : List (Int × Int)) (a : Int) : List (Int × Int) := if atOkB n es a = true then es.take a.toNat ++ es.drop (a.toNat + 1) else []

/-- A net and a truth come back; the net's edges are new. -/
def MadeNetB (w : World) (n : Int) (es : List (Int × Int)) (b : Bool) (e : Ending) (w' : World) : Prop :=
  ∃ A c, e = .returned (.tuple #[.agg #[.int .i64 n, .slice A es.length c], .bool b]) ∧ OwnE w' w.heap.size (.slice A es.length c) es ∧ Below w.heap.size w w'

end Go.Proofs.Ytdacfeebidhgnab
