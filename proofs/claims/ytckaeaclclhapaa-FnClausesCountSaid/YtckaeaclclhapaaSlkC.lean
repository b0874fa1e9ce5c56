/- Contracts of the program's SlackOf, whole (no claim of its own). Conditions: as each theorem states. -/
import Derived.Test.YtckaeaclclhapaaSlkB
namespace Go.Proofs.Ytckaeaclclhapaa
open Go.ChangeShapes Go.WideShapes Go.ChangeAt Go.RowKit Go.Shelf

end Go.Proofs.Ytckaeaclclhapaa
