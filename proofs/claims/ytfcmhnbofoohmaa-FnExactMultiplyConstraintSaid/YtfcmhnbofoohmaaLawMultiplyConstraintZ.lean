/- The walk of the exact law of MultiplyConstraint, its contracts laid (no claim of its own). Conditions: as each theorem states. -/
import Derived.Test.YtfcmhnbofoohmaaLawMultiplyConstraintW
namespace Go.Proofs.Ytfcmhnbofoohmaa
open Go.ChangeShapes Go.WideShapes Go.ChangeAt Go.RowKit

theorem lawMultiplyConstraint_walk (A : Option Addr) (n cap : Nat) (bd : Int) (c l : Nat → Int) (kk : Int) (w : World) (hm : n ≤ maxLen) (hr : Rd w w.heap.size A n c l) (_hk : (Lit.int .i64 kk).wf = true) :
    Calls Try.prog 5 #[.agg #[.slice A n cap, .int .i64 bd], .int .i64 kk] w fun e w' => e = .returned (.bool true) ∧ Below w.heap.size w w' := by
  by_cases h : n ≤ 1048576
  · exact lawMultiplyConstraint_ok kk A n cap bd c l (infN (scaR n c l bd kk) n (fun i => mulK (c i) kk) l (mulK bd kk)) (fun i => mulK (c i) kk) l (infD (scaR n c l bd kk) n (fun i => mulK (c i) kk) l (mulK bd kk)) (infB (scaR n c l bd kk) n (fun i => mulK (c i) kk) l (mulK bd kk)) w h (Nat.le_trans (infN_le _ _ _ _ _) h) hr
      (fun A cap W hr => specMultiply_any A n cap bd kk c l W h hr) (fun A cap W hr => implMultiply_any A n cap bd kk c l W h hr)
  · exact lawMultiplyConstraint_no kk A n cap bd w (by omega) hm
end Go.Proofs.Ytfcmhnbofoohmaa
