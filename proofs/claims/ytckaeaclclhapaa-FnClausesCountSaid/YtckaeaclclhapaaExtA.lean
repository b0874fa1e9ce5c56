/- The model's ExtendsPartial (no claim of its own). Conditions: as each theorem states. -/
import Derived.Test.YtckaeaclclhapaaNotF
import Derived.Test.YtckaeaclclhapaaProB
namespace Go.Proofs.Ytckaeaclclhapaa
open Go.ChangeShapes Go.WideShapes Go.ChangeAt Go.RowKit Go.Shelf

/-- A value agrees with what a variable is given. -/
def agP (x : Int) (b : Bool) : Bool := !((x == 1 && !b) || (x == -1 && b))
/-- The first k values agree. -/
def agT (v : Nat → Int) (u : Nat → Bool) : Nat → Bool
  | 0 => true
  | k + 1 => agT v u k && agP (v k) (u k)
/-- What ExtendsPartial answers. -/
def extB (n : Nat) (v : Nat → Int) (nv : Nat) (u : Nat → Bool) : Bool := pvB n v && (nv == 12 && agT v u 12)
section
variable {v : Nat → Int} {u : Nat → Bool} {n nv k : Nat}
theorem agT_no (hk : k < n) (h : agP (v k) (u k) = false) : agT v u n = false := by
  induction n with
  | zero => omega
  | succ n ih =>
    unfold agT
    by_cases e : k = n
    · subst e; rw [h, Bool.and_false]
    · rw [ih (by omega), Bool.false_and]
theorem agT_yes (h : agT v u k = true) (h1 : agP (v k) (u k) = true) : agT v u (k + 1) = true := by
  unfold agT
  rw [h, h1]
  rfl
theorem ext_inv (h : pvB n v = false) : extB n v nv u = false := by simp [extB, h]
theorem ext_len (h : nv ≠ 12) : extB n v nv u = false := by simp [extB, h]
theorem ext_yes (h : pvB n v = true) : extB n v 12 u = agT v u 12 := by simp [extB, h]
end

end Go.Proofs.Ytckaeaclclhapaa
