/- What the law of saturation needs of its rule (no claim of its own). Conditions: as each theorem states. -/
import Derived.Test.YtipblbcedkhmbaaSatM
import Derived.Test.YtipblbcedkhmbaaSatB
namespace Go.Proofs.Ytipblbcedkhmbaa
open Go.ChangeShapes Go.WideShapes Go.ChangeAt Go.RowKit

theorem satFacts (k : Nat) (c l : Nat → Int) (bd : Int) (hk : k ≤ 1048576) : ∃ (N : Nat) (C L : Nat → Int) (BD : Int) (OK : Bool), N ≤ 1048576 ∧
    (∀ A cap W, Rd W W.heap.size A k c l → Calls Try.prog 44 #[.agg #[.slice A k cap, .int .i64 bd]] W (CRes W N C L BD OK)) ∧
    (∀ A cap W, Rd W W.heap.size A k c l → Calls Try.prog 45 #[.agg #[.slice A k cap, .int .i64 bd]] W (CRes W N C L BD OK)) ∧
    (OK = true → validB N C L BD = true ∧
      (∀ A cap W, Rd W W.heap.size A N C L → Calls Try.prog 44 #[.agg #[.slice A N cap, .int .i64 BD]] W (CRes W N C L BD true)) ∧
      ∀ nv v, evalV N C L BD nv v = evalV k c l bd nv v) := by
  refine ⟨_, minC c bd, l, _, _, ?_, fun A cap W h => implSat_any A k cap bd c l W hk h, fun A cap W h => specSat_any A k cap bd c l W hk h, fun hok => ?_⟩
  · refine Nat.le_trans (infN_le _ _ _ _ _) ?_
    unfold satN
    split <;> omega
  · obtain ⟨hv, hv2, hi, he⟩ := sat_law hk hok
    obtain ⟨e1, e2⟩ := inf_of hok
    rw [e1, e2]
    refine ⟨hv2, fun A cap W h => ?_, he⟩
    have hN : satN k bd ≤ 1048576 := by unfold satN; split <;> omega
    obtain ⟨f1, f2⟩ := inf_of hi
    exact (implSat_any A _ cap bd _ l W hN h).mono fun e w' hr => hr.to (by rw [f1, satN_twice]) (fun i _ => ⟨minC_twice c bd i, rfl⟩) f2 hi
end Go.Proofs.Ytipblbcedkhmbaa
