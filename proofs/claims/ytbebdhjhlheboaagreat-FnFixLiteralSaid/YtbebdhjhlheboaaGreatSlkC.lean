/- Contracts of the program's SlackOf, whole (no claim of its own). Conditions: as each theorem states. -/
import Derived.Test.YtbebdhjhlheboaaGreatSlkB
namespace Go.Proofs.YtbebdhjhlheboaaGreat
open Go.ChangeShapes Go.WideShapes Go.ChangeAt Go.RowKit Go.Shelf

end Go.Proofs.YtbebdhjhlheboaaGreat
