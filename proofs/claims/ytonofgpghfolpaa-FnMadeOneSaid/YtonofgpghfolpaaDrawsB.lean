/- The draws of a net with a state, a node or a place. -/
import Derived.Test.YtonofgpghfolpaaDraws
namespace Go.Proofs.Ytonofgpghfolpaa
open Go.RowKit

end Go.Proofs.Ytonofgpghfolpaa
