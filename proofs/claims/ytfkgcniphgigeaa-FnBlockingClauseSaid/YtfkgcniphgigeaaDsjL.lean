/- What both sides' ClauseOf hand back, together (no claim of its own). Conditions: as each theorem states. -/
import Derived.Test.YtfkgcniphgigeaaDsjI
import Derived.Test.YtfkgcniphgigeaaDsjS
import Derived.Test.YtfkgcniphgigeaaIntR
namespace Go.Proofs.Ytfkgcniphgigeaa
open Go.ChangeShapes Go.WideShapes Go.ChangeAt Go.RowKit

theorem clN_le (n : Nat) (v : Nat → Int) : clN n v ≤ 1048576 := by
  have h := clR_length (seenA v n) 12
  unfold clN clF
  split <;> omega
end Go.Proofs.Ytfkgcniphgigeaa
