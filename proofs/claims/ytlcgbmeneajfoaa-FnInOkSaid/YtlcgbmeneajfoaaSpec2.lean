/- l2Pieces, PiecesIn, JoinedOk, WholeOk, RankOf, RingFreeOk of the reference. -/
import Derived.Test.YtlcgbmeneajfoaaFind
import Derived.Test.YtlcgbmeneajfoaaImpl2
namespace Go.Proofs.Ytlcgbmeneajfoaa
open Go.RowKit
set_option maxRecDepth 100000

end Go.Proofs.Ytlcgbmeneajfoaa
