/- l2Pieces, PiecesIn, JoinedOk, WholeOk, RankOf, RingFreeOk of the reference. -/
import Derived.Test.YtcmomghlepmogaaDoorFind
import Derived.Test.YtcmomghlepmogaaDoorImpl2
namespace Go.Proofs.YtcmomghlepmogaaDoor
open Go.RowKit
set_option maxRecDepth 100000

end Go.Proofs.YtcmomghlepmogaaDoor
