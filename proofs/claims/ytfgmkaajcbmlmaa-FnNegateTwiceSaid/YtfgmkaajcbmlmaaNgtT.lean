/- A constraint negated twice: plain facts (no claim of its own). Conditions: as each theorem states. -/
import Derived.Test.YtfgmkaajcbmlmaaNgtP
import Derived.Test.YtfgmkaajcbmlmaaNgtB
import Derived.Test.YtfgmkaajcbmlmaaFalB
namespace Go.Proofs.Ytfgmkaajcbmlmaa
open Go.ChangeShapes Go.WideShapes Go.ChangeAt Go.RowKit Go.Shelf

theorem totW_neg {n : Nat} {c l : Nat → Int} {bd : Int} (hn : n ≤ 13) (hval : validB n c l bd = true) : totW c (negL l) n = totW c l n := by
  unfold totW
  rw [sumW_sB (by omega) (coef_of hval), sumW_sB (by omega) (coef_of hval)]
  induction n with
  | zero => rfl
  | succ n _ =>
    have : ∀ m, sB c (negL l) (fun _ => true) m = sB c l (fun _ => true) m := fun m => by
      induction m with
      | zero => rfl
      | succ m ih => rw [sB_yes (P := fun _ => true) rfl, sB_yes (P := fun _ => true) rfl, ih]
    exact this _
theorem totV_neg {n : Nat} {c l : Nat → Int} {bd : Int} (hn : n ≤ 13) (hval : validB n c l bd = true) : (if validB n c (negL l) (negBd n c l bd) then totW c (negL l) n else 0) = (if validB n c l bd then totW c l n else 0) := by
  rw [neg_valid hn hval, hval, totW_neg hn hval]
theorem negL_neg (l : Nat → Int) : negL (negL l) = l := funext fun i => by unfold negL; omega
theorem negBd_neg {n : Nat} {c l : Nat → Int} {bd : Int} (hn : n ≤ 13) (hval : validB n c l bd = true) (hf : falseV n c l bd = false) : negBd n c (negL l) (negBd n c l bd) = bd := by
  have h1 := sB_le (l := l) (P := fun _ => true) (coef_of hval)
  have h2 := bound_of hval
  have h3 := negB_val hn hval
  have h4 : bd ≤ totW c l n := by
    unfold falseV at hf
    rw [hval, Bool.true_and, decide_eq_false_iff_not] at hf
    omega
  have h6 := negB_val hn (neg_valid hn hval)
  have h7 := totW_neg hn hval
  have h8 : totW c l n = sB c l (fun _ => true) n := sumW_sB (by omega) (coef_of hval)
  have h9 : totW c (negL l) n = sB c (negL l) (fun _ => true) n := sumW_sB (by omega) (coef_of hval)
  have h5 : negBd n c l bd = negB n c l bd := by unfold negBd; rw [if_neg (by omega)]
  rw [h5] at h6
  rw [h5]
  unfold negBd
  rw [if_neg (by omega)]
  omega
end Go.Proofs.Ytfgmkaajcbmlmaa
