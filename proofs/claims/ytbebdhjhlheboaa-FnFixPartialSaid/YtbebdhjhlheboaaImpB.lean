/- The program's ImpliedLiterals (no claim of its own). Conditions: as each theorem states. -/
import Derived.Test.YtbebdhjhlheboaaImpA
import Derived.Deep.DeepCutAuto
import Derived.Deep.CutBlock
namespace Go.Proofs.Ytbebdhjhlheboaa
open Go.ChangeShapes Go.WideShapes Go.ChangeAt Go.RowKit Go.Shelf

end Go.Proofs.Ytbebdhjhlheboaa
