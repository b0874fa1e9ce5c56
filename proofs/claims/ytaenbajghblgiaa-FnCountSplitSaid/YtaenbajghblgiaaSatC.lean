/- Contracts of the program's SatisfiesAll (no claim of its own). Conditions: as each theorem states. -/
import Derived.Test.YtaenbajghblgiaaSatP
namespace Go.Proofs.Ytaenbajghblgiaa
open Go.ChangeShapes Go.WideShapes Go.ChangeAt Go.RowKit

end Go.Proofs.Ytaenbajghblgiaa
