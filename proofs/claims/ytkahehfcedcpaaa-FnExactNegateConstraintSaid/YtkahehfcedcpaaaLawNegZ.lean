/- The walk of the exact law of NegateConstraint, its contracts laid (no claim of its own). Conditions: as each theorem states. -/
import Derived.Test.YtkahehfcedcpaaaLawNegateConstraintW
import Derived.Test.YtkahehfcedcpaaaNegB
namespace Go.Proofs.Ytkahehfcedcpaaa
open Go.ChangeShapes Go.WideShapes Go.ChangeAt Go.RowKit

theorem lawNegateConstraint_walk (A : Option Addr) (n cap : Nat) (bd : Int) (c l : Nat → Int) (w : World) (hm : n ≤ maxLen) (hr : Rd w w.heap.size A n c l) :
    Calls Try.prog 7 #[.agg #[.slice A n cap, .int .i64 bd]] w fun e w' => e = .returned (.bool true) ∧ Below w.heap.size w w' := by
  by_cases h : n ≤ 1048576
  · exact lawNegateConstraint_ok A n cap bd c l (negNum n c l bd) c (negL l) (negBnd n c l bd) (validB n c l bd) w h (Nat.le_trans (negNum_le n c l bd) h) hr
      (fun A cap W hr => specNeg_any A n cap bd c l W h hr) (fun A cap W hr => implNeg_any A n cap bd c l W h hr)
  · exact lawNegateConstraint_no A n cap bd w (by omega) hm
end Go.Proofs.Ytkahehfcedcpaaa
