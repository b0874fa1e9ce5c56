/- Contracts of the program's partial assignments as arrays (no claim of its own). Conditions: as each theorem states. -/
import Derived.Test.YtipblbcedkhmbaaSlkA
import Derived.Test.YtipblbcedkhmbaaEvaA
namespace Go.Proofs.Ytipblbcedkhmbaa
open Go.ChangeShapes Go.WideShapes Go.ChangeAt Go.RowKit Go.Shelf

/-- Twelve values, as cells; as an array. -/
def cells12 (v : Nat → Int) : Array Value := #[.int .i64 (v 0), .int .i64 (v 1), .int .i64 (v 2), .int .i64 (v 3), .int .i64 (v 4), .int .i64 (v 5), .int .i64 (v 6), .int .i64 (v 7), .int .i64 (v 8), .int .i64 (v 9), .int .i64 (v 10), .int .i64 (v 11)]
def arrV (v : Nat → Int) : Value := .agg (cells12 v)
theorem cells12_at (v : Nat → Int) {i : Nat} (h : i < 12) : (cells12 v)[i]? = some (.int .i64 (v i)) := by
  match i, h with
  | 0, _ => rfl
  | 1, _ => rfl
  | 2, _ => rfl
  | 3, _ => rfl
  | 4, _ => rfl
  | 5, _ => rfl
  | 6, _ => rfl
  | 7, _ => rfl
  | 8, _ => rfl
  | 9, _ => rfl
  | 10, _ => rfl
  | 11, _ => rfl

end Go.Proofs.Ytipblbcedkhmbaa
