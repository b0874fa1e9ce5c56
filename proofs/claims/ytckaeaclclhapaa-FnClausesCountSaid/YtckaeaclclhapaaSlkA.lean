/- Contracts of the model's SlackOf (no claim of its own). Conditions: as each theorem states. -/
import Derived.Test.YtckaeaclclhapaaParB
namespace Go.Proofs.Ytckaeaclclhapaa
open Go.ChangeShapes Go.WideShapes Go.ChangeAt Go.RowKit Go.Shelf

theorem litAt' {n : Nat} {c l : Nat → Int} {bd : Int} (h : validB n c l bd = true) {k : Nat} (hk : k < n) : litB (l k) = true := litAt h hk

/-- What a function that answers an int and a Boolean leaves. -/
def IRes (w : World) (x : Int) (ok : Bool) (e : Ending) (w' : World) : Prop := e = .returned (.tuple #[.int .i64 x, .bool ok]) ∧ Below w.heap.size w w'
theorem slk_inv {n : Nat} {c l : Nat → Int} {bd : Int} {nv : Nat} {v : Nat → Int} (h : slkOk n c l bd nv v = false) : slkV n c l bd nv v = 0 := by unfold slkV; rw [h]; rfl
theorem slk_yes {n : Nat} {c l : Nat → Int} {bd : Int} {nv : Nat} {v : Nat → Int} (h : slkOk n c l bd nv v = true) : slkV n c l bd nv v = slk n c l bd v := by unfold slkV; rw [h]; rfl

end Go.Proofs.Ytckaeaclclhapaa
