/- Closed facts of the law FnNextSolution (no claim of its own). Conditions: none. -/
import Derived.Test.YtnfkhakgikbbeaaGreatClosed
namespace Go.Proofs.YtnfkhakgikbbeaaGreat
open Go.ChangeShapes Go.WideShapes Go.ChangeAt Go.RowKit

set_option maxRecDepth 100000 in
set_option maxHeartbeats 0 in
theorem lawFnNextSolution_closed : joinedFacts Tryz.pinned.checked.prog 4 Tryz.f4 Rows.fnNextSolutionSpec Rows.fnNextSolutionRow = true := by
  unfold joinedFacts
  repeat' (with_reducible refine and_t ?_ ?_)
  all_goals (first | with_reducible exact cl_laid | with_reducible exact cl_rowed | with_reducible exact cl_heard | with_reducible exact cl_enter | (rw [cl_keys]; kernel_rfl) | (rw [cl_lift]; kernel_rfl) | kernel_rfl)

end Go.Proofs.YtnfkhakgikbbeaaGreat
