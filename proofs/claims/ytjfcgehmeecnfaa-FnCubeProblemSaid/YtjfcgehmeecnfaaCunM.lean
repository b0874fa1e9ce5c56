/- Which values satisfy a problem under a cube (no claim of its own). Conditions: as each theorem states. -/
import Derived.Test.YtjfcgehmeecnfaaCubP
import Derived.Test.YtjfcgehmeecnfaaCubB
import Derived.Test.YtjfcgehmeecnfaaSatP
namespace Go.Proofs.Ytjfcgehmeecnfaa
open Go.ChangeShapes Go.WideShapes Go.ChangeAt Go.RowKit

theorem unC_ok {z : Int} (hz : litB z = true) : validB (unC z).n (unC z).c (unC z).l (unC z).bd = true := by
  obtain ⟨h0, h1, h2⟩ := litB_iff.1 hz
  rcases (show z = -12 ∨ z = -11 ∨ z = -10 ∨ z = -9 ∨ z = -8 ∨ z = -7 ∨ z = -6 ∨ z = -5 ∨ z = -4 ∨ z = -3 ∨ z = -2 ∨ z = -1 ∨ z = 1 ∨ z = 2 ∨ z = 3 ∨ z = 4 ∨ z = 5 ∨ z = 6 ∨ z = 7 ∨ z = 8 ∨ z = 9 ∨ z = 10 ∨ z = 11 ∨ z = 12 by omega) with rfl | rfl | rfl | rfl | rfl | rfl | rfl | rfl | rfl | rfl | rfl | rfl | rfl | rfl | rfl | rfl | rfl | rfl | rfl | rfl | rfl | rfl | rfl | rfl <;> rfl
theorem unC_eval {z : Int} (hz : litB z = true) (u : Nat → Bool) : evalV (unC z).n (unC z).c (unC z).l (unC z).bd 12 u = trueP u z := by
  rw [evalV_yes (unC_ok hz)]
  show decide ((1 : Int) ≤ evW (fun _ => 1) (fun _ => z) u 1) = trueP u z
  unfold evW
  have hw : wrap64 1 = 1 := IntWalk.i64_left _ ▸ IntWalk.i64_in _ (by omega)
  cases h : trueP u z <;> simp [sel, sumW, h, hw]
section
variable {n m : Nat} {p : Nat → Con} {c : Nat → Int} {v : Nat → Bool}
theorem und_allV (h : allV p n = true) (hl : litR c m = true) : allV (undP n p c) (n + m) = true := by
  have h1 : ∀ j, j ≤ n → allV (undP n p c) j = allV p j := by
    intro j
    induction j with
    | zero => intro _; rfl
    | succ j ih =>
      intro hj
      unfold allV
      rw [ih (by omega), undP_lt (show j < n by omega)]
  have h2 : ∀ k, k ≤ m → allV (undP n p c) (n + k) = true := by
    intro k
    induction k with
    | zero => intro _; rw [Nat.add_zero, h1 n (Nat.le_refl _)]; exact h
    | succ k ih =>
      intro hk
      show (allV (undP n p c) (n + k) && validB (undP n p c (n + k)).n (undP n p c (n + k)).c (undP n p c (n + k)).l (undP n p c (n + k)).bd) = true
      rw [ih (by omega), undP_ge k, unC_ok (litR_at hl (by omega))]
      rfl
  exact h2 m (Nat.le_refl _)
theorem und_allE (hl : litR c m = true) : allE (undP n p c) v (n + m) = (allE p v n && holdR c v m) := by
  have h1 : ∀ j, j ≤ n → allE (undP n p c) v j = allE p v j := by
    intro j
    induction j with
    | zero => intro _; rfl
    | succ j ih =>
      intro hj
      unfold allE
      rw [ih (by omega), undP_lt (show j < n by omega)]
  have h2 : ∀ k, k ≤ m → allE (undP n p c) v (n + k) = (allE p v n && holdR c v k) := by
    intro k
    induction k with
    | zero => intro _; rw [Nat.add_zero, h1 n (Nat.le_refl _)]; exact (Bool.and_true _).symm
    | succ k ih =>
      intro hk
      show (allE (undP n p c) v (n + k) && evalV (undP n p c (n + k)).n (undP n p c (n + k)).c (undP n p c (n + k)).l (undP n p c (n + k)).bd 12 v) = (allE p v n && (holdR c v k && trueP v (c k)))
      rw [ih (by omega), undP_ge k, unC_eval (litR_at hl (by omega)), Bool.and_assoc]
  exact h2 m (Nat.le_refl _)
theorem und_prob (h : undOk n p m c = true) : probB (n + m) (undP n p c) = true := by
  obtain ⟨h1, h2, h3⟩ := und_parts h
  unfold probB
  rw [und_allV (prob_V h1) (cube_parts h2).1, decide_eq_true h3]
  rfl
theorem und_sat (h : undOk n p m c = true) : satB (n + m) (undP n p c) 12 v = (satB n p 12 v && holdsB m c 12 v) := by
  obtain ⟨h1, h2, h3⟩ := und_parts h
  rw [satB_yes (und_prob h), satB_yes h1, holds_eq h2, und_allE (cube_parts h2).1]
end
end Go.Proofs.Ytjfcgehmeecnfaa
