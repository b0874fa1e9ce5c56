/- Contracts of the model's and the program's EvalConstraint, whole (no claim of its own). Conditions: as each theorem states. -/
import Derived.Test.YtckaeaclclhapaaEvaA
namespace Go.Proofs.Ytckaeaclclhapaa
open Go.ChangeShapes Go.WideShapes Go.ChangeAt Go.RowKit Go.Shelf

/-- What EvalConstraint answers. -/
def evalV (n : Nat) (c l : Nat → Int) (bd : Int) (nv : Nat) (v : Nat → Bool) : Bool := validB n c l bd && (nv == 12 && decide (bd ≤ evW c l v n))
theorem evalV_inv {n : Nat} {c l : Nat → Int} {bd : Int} {nv : Nat} {v : Nat → Bool} (h : validB n c l bd = false) : evalV n c l bd nv v = false := by simp [evalV, h]
theorem evalV_len {n : Nat} {c l : Nat → Int} {bd : Int} {nv : Nat} {v : Nat → Bool} (h : nv ≠ 12) : evalV n c l bd nv v = false := by simp [evalV, h]
theorem evalV_yes {n : Nat} {c l : Nat → Int} {bd : Int} {v : Nat → Bool} (h : validB n c l bd = true) : evalV n c l bd 12 v = decide (bd ≤ evW c l v n) := by simp [evalV, h]

end Go.Proofs.Ytckaeaclclhapaa
