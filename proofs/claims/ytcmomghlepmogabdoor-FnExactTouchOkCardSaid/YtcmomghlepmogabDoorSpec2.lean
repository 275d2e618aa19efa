/- l2Pieces, PiecesIn, JoinedOk, WholeOk, RankOf, RingFreeOk of the reference. -/
import Derived.Test.YtcmomghlepmogabDoorFind
import Derived.Test.YtcmomghlepmogabDoorImpl2
namespace Go.Proofs.YtcmomghlepmogabDoor
open Go.RowKit
set_option maxRecDepth 100000

end Go.Proofs.YtcmomghlepmogabDoor
