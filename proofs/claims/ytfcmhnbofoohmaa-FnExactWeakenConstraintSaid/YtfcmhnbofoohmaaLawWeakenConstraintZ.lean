/- The walk of the exact law of WeakenConstraint, its contracts laid (no claim of its own). Conditions: as each theorem states. -/
import Derived.Test.YtfcmhnbofoohmaaLawWeakenConstraintW
namespace Go.Proofs.Ytfcmhnbofoohmaa
open Go.ChangeShapes Go.WideShapes Go.ChangeAt Go.RowKit

theorem lawWeakenConstraint_walk (A : Option Addr) (n cap : Nat) (bd : Int) (c l : Nat → Int) (kk : Int) (w : World) (hm : n ≤ maxLen) (hr : Rd w w.heap.size A n c l) (_hk : (Lit.int .i64 kk).wf = true) :
    Calls Try.prog 8 #[.agg #[.slice A n cap, .int .i64 bd], .int .i64 kk] w fun e w' => e = .returned (.bool true) ∧ Below w.heap.size w w' := by
  by_cases h : n ≤ 1048576
  · exact lawWeakenConstraint_ok kk A n cap bd c l (infN (weaR n c l bd kk) (kept c l kk n).length (rC (kept c l kk n)) (rL (kept c l kk n)) (capB (wkB c l bd kk n))) (rC (kept c l kk n)) (rL (kept c l kk n)) (infD (weaR n c l bd kk) (kept c l kk n).length (rC (kept c l kk n)) (rL (kept c l kk n)) (capB (wkB c l bd kk n))) (infB (weaR n c l bd kk) (kept c l kk n).length (rC (kept c l kk n)) (rL (kept c l kk n)) (capB (wkB c l bd kk n))) w h (Nat.le_trans (Nat.le_trans (infN_le _ _ _ _ _) (kept_le n)) h) hr
      (fun A cap W hr => specWeaken_any A n cap bd kk c l W h hr) (fun A cap W hr => implWeaken_any A n cap bd kk c l W h hr)
  · exact lawWeakenConstraint_no kk A n cap bd w (by omega) hm
end Go.Proofs.Ytfcmhnbofoohmaa
