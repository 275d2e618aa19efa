/- JoiningCounts, WholeCounts and ForestCounts of the program. -/
import Derived.Test.YtdacfeebidhgnaaSpecCnt
import Derived.Test.YtdacfeebidhgnaaMade
import Derived.Test.YtdacfeebidhgnaaSets
namespace Go.Proofs.Ytdacfeebidhgnaa
open Go.RowKit
set_option maxRecDepth 100000

end Go.Proofs.Ytdacfeebidhgnaa
