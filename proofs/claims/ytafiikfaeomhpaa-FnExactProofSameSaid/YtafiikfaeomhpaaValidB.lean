/- Contracts of the program's ConstraintValid (no claim of its own). Conditions: as each theorem states. -/
import Derived.Test.YtafiikfaeomhpaaValidA
namespace Go.Proofs.Ytafiikfaeomhpaa
open Go.ChangeShapes Go.WideShapes Go.ChangeAt Go.RowKit

def lastOf (l : Nat → Int) : Nat → Int
  | 0 => 0
  | k + 1 => ab (l k)
theorem ab_pos {n : Int} (h : litB n = true) : 1 ≤ ab n ∧ ab n ≤ 12 := by
  have := litB_iff.1 h
  unfold ab
  split <;> omega
theorem okAt_iff {c l : Nat → Int} {k : Nat} : okAt c l k = true ↔ litB (l k) = true ∧ 1 ≤ c k ∧ c k ≤ 1000 ∧ lastOf l k < ab (l k) := by
  cases k with
  | zero =>
    constructor
    · intro h
      have h1 := okAt_lit h
      have h2 := okAt_coef h
      exact ⟨h1, h2.1, h2.2, by have := ab_pos h1; show (0 : Int) < _; omega⟩
    · rintro ⟨h1, h2, h3, _⟩
      simp [okAt, h1, h2, h3]
  | succ k =>
    constructor
    · intro h
      have h1 := okAt_lit h
      have h2 := okAt_coef h
      simp [okAt] at h
      exact ⟨h1, h2.1, h2.2, h.2⟩
    · rintro ⟨h1, h2, h3, h4⟩
      have h5 : ab (l k) < ab (l (k + 1)) := h4
      simp [okAt, h1, h2, h3, h5]
theorem okAt_nf {c l : Nat → Int} {k : Nat} (h : ¬ (litB (l k) = true ∧ 1 ≤ c k ∧ c k ≤ 1000 ∧ lastOf l k < ab (l k))) : okAt c l k = false := by
  rw [← Bool.not_eq_true, okAt_iff]; exact h

end Go.Proofs.Ytafiikfaeomhpaa
