/- The walk of the exact law of DivideConstraint, its contracts laid (no claim of its own). Conditions: as each theorem states. -/
import Derived.Test.YtfcmhnbofoohmaaLawDivideConstraintW
namespace Go.Proofs.Ytfcmhnbofoohmaa
open Go.ChangeShapes Go.WideShapes Go.ChangeAt Go.RowKit

theorem lawDivideConstraint_walk (A : Option Addr) (n cap : Nat) (bd : Int) (c l : Nat → Int) (kk : Int) (w : World) (hm : n ≤ maxLen) (hr : Rd w w.heap.size A n c l) (_hk : (Lit.int .i64 kk).wf = true) :
    Calls Try.prog 6 #[.agg #[.slice A n cap, .int .i64 bd], .int .i64 kk] w fun e w' => e = .returned (.bool true) ∧ Below w.heap.size w w' := by
  by_cases h : n ≤ 1048576
  · exact lawDivideConstraint_ok kk A n cap bd c l (infN (scaR n c l bd kk) n (fun i => divK (c i) kk) l (divK bd kk)) (fun i => divK (c i) kk) l (infD (scaR n c l bd kk) n (fun i => divK (c i) kk) l (divK bd kk)) (infB (scaR n c l bd kk) n (fun i => divK (c i) kk) l (divK bd kk)) w h (Nat.le_trans (infN_le _ _ _ _ _) h) hr
      (fun A cap W hr => specDivide_any A n cap bd kk c l W h hr) (fun A cap W hr => implDivide_any A n cap bd kk c l W h hr)
  · exact lawDivideConstraint_no kk A n cap bd w (by omega) hm
end Go.Proofs.Ytfcmhnbofoohmaa
