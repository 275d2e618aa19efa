/- ShortestOf, ThinnestOf, ApartPaths of the reference. -/
import Derived.Test.YtlcgbmeneajfoabSpec4
namespace Go.Proofs.Ytlcgbmeneajfoab
open Go.RowKit
set_option maxRecDepth 100000

end Go.Proofs.Ytlcgbmeneajfoab
