/- Grids of the program. -/
import Derived.Test.YtcmomghlepmogabDoorImpl7c
import Derived.Test.YtcmomghlepmogabDoorSets
import Derived.Test.YtcmomghlepmogabDoorSpec7g
namespace Go.Proofs.YtcmomghlepmogabDoor
open Go.RowKit
set_option maxRecDepth 100000
end Go.Proofs.YtcmomghlepmogabDoor
