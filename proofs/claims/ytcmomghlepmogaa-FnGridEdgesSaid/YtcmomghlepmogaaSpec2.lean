/- l2Pieces, PiecesIn, JoinedOk, WholeOk, RankOf, RingFreeOk of the reference. -/
import Derived.Test.YtcmomghlepmogaaFind
import Derived.Test.YtcmomghlepmogaaImpl2
namespace Go.Proofs.Ytcmomghlepmogaa
open Go.RowKit
set_option maxRecDepth 100000

end Go.Proofs.Ytcmomghlepmogaa
