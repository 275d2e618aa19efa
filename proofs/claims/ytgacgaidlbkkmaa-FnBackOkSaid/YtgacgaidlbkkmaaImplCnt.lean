/- JoiningCounts, WholeCounts and ForestCounts of the program. -/
import Derived.Test.YtgacgaidlbkkmaaSpecCnt
import Derived.Test.YtgacgaidlbkkmaaMade
import Derived.Test.YtgacgaidlbkkmaaSets
namespace Go.Proofs.Ytgacgaidlbkkmaa
open Go.RowKit
set_option maxRecDepth 100000

end Go.Proofs.Ytgacgaidlbkkmaa
