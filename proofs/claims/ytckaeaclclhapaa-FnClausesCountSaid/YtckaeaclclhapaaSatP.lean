/- Contracts of the model's and the program's SatisfiesAll (no claim of its own). Conditions: as each theorem states. -/
import Derived.Test.YtckaeaclclhapaaProB
import Derived.Test.YtckaeaclclhapaaEvaB
namespace Go.Proofs.Ytckaeaclclhapaa
open Go.ChangeShapes Go.WideShapes Go.ChangeAt Go.RowKit

/-- The first k constraints hold. -/
def allE (p : Nat → Con) (v : Nat → Bool) : Nat → Bool
  | 0 => true
  | k + 1 => allE p v k && evalV (p k).n (p k).c (p k).l (p k).bd 12 v
/-- What SatisfiesAll answers. -/
def satB (n : Nat) (p : Nat → Con) (nv : Nat) (v : Nat → Bool) : Bool := probB n p && (nv == 12 && allE p v n)
theorem allE_no {p : Nat → Con} {v : Nat → Bool} {n k : Nat} (hk : k < n) (h : evalV (p k).n (p k).c (p k).l (p k).bd 12 v = false) : allE p v n = false := by
  induction n with
  | zero => omega
  | succ n ih =>
    unfold allE
    by_cases e : k = n
    · subst e; rw [h, Bool.and_false]
    · rw [ih (by omega), Bool.false_and]
theorem allE_yes {p : Nat → Con} {v : Nat → Bool} {k : Nat} (h : allE p v k = true) (h1 : evalV (p k).n (p k).c (p k).l (p k).bd 12 v = true) : allE p v (k + 1) = true := by
  unfold allE
  rw [h, h1]
  rfl
theorem allE_not (p : Nat → Con) (v : Nat → Bool) (n : Nat) : (!anyQ (fun k => !evalV (p k).n (p k).c (p k).l (p k).bd 12 v) n) = allE p v n := by
  induction n with
  | zero => rfl
  | succ n ih =>
    unfold anyQ allE
    rw [← ih, Bool.not_or, Bool.not_not]
theorem satB_inv {n : Nat} {p : Nat → Con} {nv : Nat} {v : Nat → Bool} (h : probB n p = false) : satB n p nv v = false := by simp [satB, h]
theorem satB_len {n : Nat} {p : Nat → Con} {nv : Nat} {v : Nat → Bool} (h : nv ≠ 12) : satB n p nv v = false := by simp [satB, h]
theorem satB_yes {n : Nat} {p : Nat → Con} {v : Nat → Bool} (h : probB n p = true) : satB n p 12 v = allE p v n := by simp [satB, h]
theorem prob_all {n : Nat} {p : Nat → Con} (h : probB n p = true) : allV p n = true := by
  unfold probB at h
  rw [Bool.and_eq_true] at h
  exact h.1

end Go.Proofs.Ytckaeaclclhapaa
