/- The draws of a net with a state, a node or a place. -/
import Derived.Test.YtaplmlbpleilfaaDraws
namespace Go.Proofs.Ytaplmlbpleilfaa
open Go.RowKit
set_option maxRecDepth 100000

end Go.Proofs.Ytaplmlbpleilfaa
