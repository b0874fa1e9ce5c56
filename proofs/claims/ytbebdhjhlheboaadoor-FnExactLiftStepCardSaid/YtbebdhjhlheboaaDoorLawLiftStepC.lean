/- Closed facts of the law LiftStep (no claim of its own). Conditions: none. -/
import Derived.Test.YtbebdhjhlheboaaDoorClosed
namespace Go.Proofs.YtbebdhjhlheboaaDoor
open Go.ChangeShapes Go.WideShapes Go.ChangeAt Go.RowKit

set_option maxRecDepth 100000 in
set_option maxHeartbeats 0 in
theorem lawLiftStep_closed : joinedFacts Tryd.pinned.checked.prog 3 Tryd.f3 Rows.fnExactLiftStepSpec Rows.fnExactLiftStepRow = true := by
  unfold joinedFacts
  repeat' (with_reducible refine and_t ?_ ?_)
  all_goals (first | with_reducible exact cl_laid | with_reducible exact cl_rowed | with_reducible exact cl_heard | with_reducible exact cl_enter | (rw [cl_keys]; kernel_rfl) | (rw [cl_lift]; kernel_rfl) | kernel_rfl)

end Go.Proofs.YtbebdhjhlheboaaDoor
