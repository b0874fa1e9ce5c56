/- The walk of the exact law of SaturateConstraint, its contracts laid (no claim of its own). Conditions: as each theorem states. -/
import Derived.Test.YtfcmhnbofoohmaaLawSaturateConstraintW
namespace Go.Proofs.Ytfcmhnbofoohmaa
open Go.ChangeShapes Go.WideShapes Go.ChangeAt Go.RowKit

theorem lawSaturateConstraint_walk (A : Option Addr) (n cap : Nat) (bd : Int) (c l : Nat → Int) (w : World) (hm : n ≤ maxLen) (hr : Rd w w.heap.size A n c l) :
    Calls Try.prog 7 #[.agg #[.slice A n cap, .int .i64 bd]] w fun e w' => e = .returned (.bool true) ∧ Below w.heap.size w w' := by
  by_cases h : n ≤ 1048576
  · exact lawSaturateConstraint_ok A n cap bd c l (infN (validB n c l bd) (satN n bd) (minC c bd) l bd) (minC c bd) l (infD (validB n c l bd) (satN n bd) (minC c bd) l bd) (infB (validB n c l bd) (satN n bd) (minC c bd) l bd) w h (Nat.le_trans (Nat.le_trans (infN_le _ _ _ _ _) (by unfold satN; split <;> omega)) h) hr
      (fun A cap W hr => specSat_any A n cap bd c l W h hr) (fun A cap W hr => implSat_any A n cap bd c l W h hr)
  · exact lawSaturateConstraint_no A n cap bd w (by omega) hm
end Go.Proofs.Ytfcmhnbofoohmaa
