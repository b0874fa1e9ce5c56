/- Contracts of the model's and the program's EvalConstraint (no claim of its own). Conditions: as each theorem states. -/
import Derived.Test.YtckaeaclclhapaaSumD
import Derived.Test.YtckaeaclclhapaaBoolA
namespace Go.Proofs.Ytckaeaclclhapaa
open Go.ChangeShapes Go.WideShapes Go.ChangeAt Go.RowKit Go.Shelf

/-- A literal is true under the values. -/
def trueP (v : Nat → Bool) (l : Int) : Bool := if 0 < l then v (l - 1).toNat else !v (-l - 1).toNat

set_option maxHeartbeats 400000 in
theorem litNegated_any (n : Int) (w : World) :
    Calls Try.prog 43 #[.int .i64 n] w fun e w' => e = .returned (.bool (decide (n < 0))) ∧ w' = w := by
  go_enter Try.func43, Try.ntmps43
  go_wp2
  go_ret
  exact ⟨rfl, rfl⟩

theorem litVariable_same (n : Int) (w : World) (h0 : -12 ≤ n) (h1 : n ≤ 12) :
    Calls Try.prog 26 #[.int .i64 n] w fun e w' => e = .returned (.int .i64 (ab n)) ∧ w' = w :=
  (litVariable_any n w h0 h1).mono fun _ _ ⟨he, hw⟩ => ⟨he, hw.symm⟩

/-- The sum of the coefficients of the true literals. -/
def evW (c l : Nat → Int) (v : Nat → Bool) (n : Nat) : Int := sumW (sel c l (trueP v) n)

end Go.Proofs.Ytckaeaclclhapaa
