/- The contract of the model's EvalConstraint, whole (no claim of its own). Conditions: as each theorem states. -/
import Derived.Test.YtipblbcedkhmbaaEvaB
namespace Go.Proofs.Ytipblbcedkhmbaa
open Go.ChangeShapes Go.WideShapes Go.ChangeAt Go.RowKit Go.Shelf

end Go.Proofs.Ytipblbcedkhmbaa
