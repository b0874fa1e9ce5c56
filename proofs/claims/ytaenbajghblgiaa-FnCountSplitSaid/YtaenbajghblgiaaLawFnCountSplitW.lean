/- The walk of the law FnCountSplit (no claim of its own). Conditions: as each theorem states. -/
import Derived.Test.YtaenbajghblgiaaHrdZ
namespace Go.Proofs.Ytaenbajghblgiaa
open Go.ChangeShapes Go.WideShapes Go.ChangeAt Go.RowKit

set_option linter.unusedVariables false in
set_option maxRecDepth 100000 in
set_option maxHeartbeats 1600000 in
theorem lawFnCountSplit_walk (A0 : Option Addr) (n0 cap0 : Nat) (y0 : Nat → Int) (A1 : Option Addr) (n1 cap1 : Nat) (y1 : Nat → Int) (w : World) (hm0 : n0 ≤ maxLen) (hc0 : n0 ≤ cap0) (hr0 : RdY w w.heap.size A0 n0 y0) (hm1 : n1 ≤ maxLen) (hc1 : n1 ≤ cap1) (hr1 : RdY w w.heap.size A1 n1 y1) :
    Calls Try.prog 6 #[.slice A0 n0 cap0, .slice A1 n1 cap1] w fun e w' => e = .returned (.bool true) ∧ Below w.heap.size w w' := by
  by_cases h0 : n0 ≤ 1048576
  · by_cases h1 : n1 ≤ 1048576
    · exact lawFnCountSplit_ok A0 A1 n0 cap0 n1 cap1 y0 w h0 h1 hc0 hr0
    · unfold maxLen at hm1
      have hi0 : ¬ (1048576 : Int) < (n0 : Int) := by omega
      have hi1 : (1048576 : Int) < (n1 : Int) := by omega
      go_enter Try.func6, Try.ntmps6
      go_wp2
      go_ret
      exact ⟨rfl, Below.refl _ _⟩
  · unfold maxLen at hm0
    have hi0 : (1048576 : Int) < (n0 : Int) := by omega
    go_enter Try.func6, Try.ntmps6
    go_wp2
    go_ret
    exact ⟨rfl, Below.refl _ _⟩
end Go.Proofs.Ytaenbajghblgiaa
