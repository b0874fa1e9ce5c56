/- What both sides' ClauseOf hand back, together (no claim of its own). Conditions: as each theorem states. -/
import Derived.Test.YtaghnjkpanjioaaDsjI
import Derived.Test.YtaghnjkpanjioaaDsjS
import Derived.Test.YtaghnjkpanjioaaIntR
namespace Go.Proofs.Ytaghnjkpanjioaa
open Go.ChangeShapes Go.WideShapes Go.ChangeAt Go.RowKit

theorem clN_le (n : Nat) (v : Nat → Int) : clN n v ≤ 1048576 := by
  have h := clR_length (seenA v n) 12
  unfold clN clF
  split <;> omega
end Go.Proofs.Ytaghnjkpanjioaa
