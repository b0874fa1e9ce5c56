/- What is asked of the terms ahead of the normal form (no claim of its own). Conditions: as each theorem states. -/
import Derived.Test.YtjfcgehmeecnfaaOutC
import Derived.StillTailTactics
namespace Go.Proofs.Ytjfcgehmeecnfaa
open Go.ChangeShapes Go.WideShapes Go.ChangeAt Go.RowKit

/-- A term that may be normalized. -/
def okN (c l : Nat → Int) (k : Nat) : Bool := litB (l k) && (decide (-1000 ≤ c k) && decide (c k ≤ 1000))
def allN (c l : Nat → Int) : Nat → Bool
  | 0 => true
  | k + 1 => allN c l k && okN c l k
def preB (n : Nat) (c l : Nat → Int) (bd : Int) : Bool := allN c l n && (decide (n ≤ 40) && (decide (-20000 ≤ bd) && decide (bd ≤ 20000)))
theorem allN_at {c l : Nat → Int} {n k : Nat} (h : allN c l n = true) (hk : k < n) : okN c l k = true := by
  induction n with
  | zero => omega
  | succ n ih =>
    unfold allN at h
    rw [Bool.and_eq_true] at h
    by_cases e : k = n
    · subst e; exact h.2
    · exact ih h.1 (by omega)
theorem allN_succ {c l : Nat → Int} {k : Nat} (h : allN c l k = true) (h2 : okN c l k = true) : allN c l (k + 1) = true := by
  unfold allN; rw [h, h2]; rfl
theorem preB_no {n : Nat} {c l : Nat → Int} {bd : Int} {k : Nat} (h : okN c l k = false) (hk : k < n) : preB n c l bd = false := by
  cases hv : allN c l n with
  | false => unfold preB; rw [hv]; rfl
  | true => rw [allN_at hv hk] at h; cases h
theorem preB_out {n : Nat} {c l : Nat → Int} {bd : Int} (h : 40 < n ∨ bd < -20000 ∨ 20000 < bd) : preB n c l bd = false := by
  rcases h with h | h | h <;> simp [preB] <;> omega
theorem preB_in {n : Nat} {c l : Nat → Int} {bd : Int} (h : allN c l n = true) (h1 : n ≤ 40) (h2 : -20000 ≤ bd) (h3 : bd ≤ 20000) : preB n c l bd = true := by
  simp [preB, h, h1, h2, h3]
theorem preB_iff {n : Nat} {c l : Nat → Int} {bd : Int} : preB n c l bd = true ↔ allN c l n = true ∧ n ≤ 40 ∧ -20000 ≤ bd ∧ bd ≤ 20000 := by
  simp [preB]
theorem okN_iff {c l : Nat → Int} {k : Nat} : okN c l k = true ↔ litB (l k) = true ∧ -1000 ≤ c k ∧ c k ≤ 1000 := by simp [okN]
theorem okN_nf {c l : Nat → Int} {k : Nat} (h : litB (l k) = false ∨ c k < -1000 ∨ 1000 < c k) : okN c l k = false := by
  rcases h with h | h | h <;> simp [okN, h] <;> omega

end Go.Proofs.Ytjfcgehmeecnfaa
