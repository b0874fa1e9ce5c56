/- What the laws of weakening need of the rule (no claim of its own). Conditions: as each theorem states. -/
import Derived.Test.YtipblbcedkhmbaaWeaM
import Derived.Test.YtipblbcedkhmbaaWeaB
import Derived.Test.YtipblbcedkhmbaaWeaC
namespace Go.Proofs.Ytipblbcedkhmbaa
open Go.ChangeShapes Go.WideShapes Go.ChangeAt Go.RowKit

theorem weaFacts (k : Nat) (c l : Nat → Int) (bd kk : Int) (hk : k ≤ 1048576) : ∃ (N : Nat) (C L : Nat → Int) (BD : Int) (OK : Bool), N ≤ 1048576 ∧
    (∀ A cap W, Rd W W.heap.size A k c l → Calls Try.prog 47 #[.agg #[.slice A k cap, .int .i64 bd], .int .i64 kk] W (CRes W N C L BD OK)) ∧
    (∀ A cap W, Rd W W.heap.size A k c l → Calls Try.prog 48 #[.agg #[.slice A k cap, .int .i64 bd], .int .i64 kk] W (CRes W N C L BD OK)) ∧
    (OK = true → (1 ≤ kk ∧ kk ≤ 12) ∧ validB N C L BD = true ∧ (∀ nv v, evalV k c l bd nv v = true → evalV N C L BD nv v = true) ∧
      (∀ (v : Nat → Bool) (i : Nat) (z : Bool), kk = (i : Int) + 1 → evalV N C L BD 12 (fun j => if j = i then z else v j) = evalV N C L BD 12 v)) := by
  refine ⟨_, rC (kept c l kk k), rL (kept c l kk k), _, _, Nat.le_trans (infN_le _ _ _ _ _) (Nat.le_trans (kept_le k) hk), fun A cap W h => implWeaken_any A k cap bd kk c l W hk h, fun A cap W h => specWeaken_any A k cap bd kk c l W hk h, fun hok => ?_⟩
  obtain ⟨h1, hv0, hv, he, hx⟩ := wea_law hk hok
  obtain ⟨e1, e2⟩ := inf_of hok
  rw [e1, e2]
  exact ⟨h1, hv, he, hx⟩
end Go.Proofs.Ytipblbcedkhmbaa
