/- Contracts of the model's ConstraintValid (no claim of its own). Conditions: as each theorem states. -/
import Derived.Test.YtafiikfaeomhpaaBaseC
import Derived.IntWalk
namespace Go.Proofs.Ytafiikfaeomhpaa
open Go.ChangeShapes Go.WideShapes Go.ChangeAt Go.RowKit

def litB (n : Int) : Bool := !(n == 0) && (decide (-12 ≤ n) && decide (n ≤ 12))
def ab (n : Int) : Int := if n < 0 then -n else n
theorem litB_iff {n : Int} : litB n = true ↔ n ≠ 0 ∧ -12 ≤ n ∧ n ≤ 12 := by simp [litB]
theorem litB_no {n : Int} : litB n = false ↔ (n = 0 ∨ n < -12 ∨ 12 < n) := by
  rw [← Bool.not_eq_true, litB_iff]; omega

def okAt (c l : Nat → Int) : Nat → Bool
  | 0 => litB (l 0) && (decide (1 ≤ c 0) && decide (c 0 ≤ 1000))
  | k + 1 => litB (l (k + 1)) && (decide (1 ≤ c (k + 1)) && decide (c (k + 1) ≤ 1000)) && decide (ab (l k) < ab (l (k + 1)))
def vtB (c l : Nat → Int) : Nat → Bool
  | 0 => true
  | k + 1 => vtB c l k && okAt c l k
def validB (n : Nat) (c l : Nat → Int) (bd : Int) : Bool := vtB c l n && (decide (0 ≤ bd) && decide (bd ≤ 20000))

theorem okAt_lit {c l : Nat → Int} {k : Nat} (h : okAt c l k = true) : litB (l k) = true := by
  cases k <;> simp_all [okAt]
theorem okAt_coef {c l : Nat → Int} {k : Nat} (h : okAt c l k = true) : 1 ≤ c k ∧ c k ≤ 1000 := by
  cases k <;> simp_all [okAt]
theorem vtB_at {c l : Nat → Int} {n k : Nat} (h : vtB c l n = true) (hk : k < n) : okAt c l k = true := by
  induction n with
  | zero => omega
  | succ n ih =>
    unfold vtB at h
    rw [Bool.and_eq_true] at h
    by_cases e : k = n
    · subst e; exact h.2
    · exact ih h.1 (by omega)
theorem vtB_no {c l : Nat → Int} {n k : Nat} (h : okAt c l k = false) (hk : k < n) : vtB c l n = false := by
  cases hv : vtB c l n with
  | false => rfl
  | true => rw [vtB_at hv hk] at h; cases h

theorem okAt_no {c l : Nat → Int} {k : Nat} (h : litB (l k) = false ∨ c k < 1 ∨ 1000 < c k) : okAt c l k = false := by
  rcases h with h | h | h <;> cases k <;> simp [okAt, h] <;> omega
theorem validB_no {n : Nat} {c l : Nat → Int} {bd : Int} {k : Nat} (h : okAt c l k = false) (hk : k < n) : validB n c l bd = false := by
  unfold validB
  rw [vtB_no h hk]
  rfl

end Go.Proofs.Ytafiikfaeomhpaa
