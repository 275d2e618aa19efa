/- l2Pieces, PiecesIn, JoinedOk, WholeOk, RankOf, RingFreeOk of the reference. -/
import Derived.Test.YtcmomghlepmogabFind
import Derived.Test.YtcmomghlepmogabImpl2
namespace Go.Proofs.Ytcmomghlepmogab
open Go.RowKit
set_option maxRecDepth 100000

end Go.Proofs.Ytcmomghlepmogab
