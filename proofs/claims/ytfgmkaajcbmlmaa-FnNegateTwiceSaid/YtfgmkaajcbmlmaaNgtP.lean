/- The negation of a constraint is its complement: plain facts (no claim of its own). Conditions: as each theorem states. -/
import Derived.Test.YtfgmkaajcbmlmaaNgtA
import Derived.Test.YtfgmkaajcbmlmaaSmeA
import Derived.Test.YtfgmkaajcbmlmaaSlkM
namespace Go.Proofs.Ytfgmkaajcbmlmaa
open Go.ChangeShapes Go.WideShapes Go.ChangeAt Go.RowKit Go.Shelf

theorem litB_neg (x : Int) : litB (-x) = litB x := by
  rw [Bool.eq_iff_iff, litB_iff, litB_iff]; omega
theorem ab_neg (x : Int) : ab (-x) = ab x := by unfold ab; split <;> split <;> omega
theorem okAt_neg (c l : Nat → Int) (k : Nat) : okAt c (negL l) k = okAt c l k := by
  cases k <;> simp only [okAt, negL, litB_neg, ab_neg]
theorem vtB_neg (c l : Nat → Int) (n : Nat) : vtB c (negL l) n = vtB c l n := by
  induction n with
  | zero => rfl
  | succ n ih => unfold vtB; rw [ih, okAt_neg]
theorem trueP_neg {v : Nat → Bool} {x : Int} (h : litB x = true) : trueP v (-x) = !trueP v x := by
  obtain ⟨h0, h1, h2⟩ := litB_iff.1 h
  unfold trueP
  by_cases hp : 0 < x
  · rw [if_neg (by omega), if_pos hp, Int.neg_neg]
  · rw [if_pos (by omega), if_neg hp, Bool.not_not]
theorem sB_neg {c l : Nat → Int} {v : Nat → Bool} {n : Nat} (h : ∀ i, i < n → litB (l i) = true) : sB c (negL l) (trueP v) n = sB c l (fun _ => true) n - sB c l (trueP v) n := by
  induction n with
  | zero => rfl
  | succ n ih =>
    have h1 := ih (fun i hi => h i (by omega))
    have h2 := trueP_neg (v := v) (h n (by omega))
    rw [sB_yes (P := fun _ => true) rfl]
    cases hp : trueP v (l n) with
    | true => rw [sB_no (l := negL l) (by show trueP v (-(l n)) = false; rw [h2, hp]; rfl), sB_yes hp, h1]; omega
    | false => rw [sB_yes (l := negL l) (by show trueP v (-(l n)) = true; rw [h2, hp]; rfl), sB_no hp, h1]; omega
theorem negB_val {n : Nat} {c l : Nat → Int} {bd : Int} (hn : n ≤ 13) (hval : validB n c l bd = true) : negB n c l bd = sB c l (fun _ => true) n - bd + 1 := by
  have h1 := sB_le (l := l) (P := fun _ => true) (coef_of hval)
  have h2 := bound_of hval
  unfold negB totW
  rw [sumW_sB (by omega) (coef_of hval), IntWalk.i64_in (sB c l (fun _ => true) n - bd) (by omega), IntWalk.i64_in _ (by omega)]
theorem neg_valid {n : Nat} {c l : Nat → Int} {bd : Int} (hn : n ≤ 13) (hval : validB n c l bd = true) : validB n c (negL l) (negBd n c l bd) = true := by
  have h1 := sB_le (l := l) (P := fun _ => true) (coef_of hval)
  have h2 := bound_of hval
  have h3 := negB_val hn hval
  have hv := hval
  unfold validB at hv ⊢
  rw [Bool.and_eq_true] at hv ⊢
  refine ⟨by rw [vtB_neg]; exact hv.1, ?_⟩
  simp only [Bool.and_eq_true, decide_eq_true_eq]
  unfold negBd
  split <;> omega
theorem neg_eval {n : Nat} {c l : Nat → Int} {bd : Int} {v : Nat → Bool} (hn : n ≤ 13) (hval : validB n c l bd = true) : evalV n c (negL l) (negBd n c l bd) 12 v = !evalV n c l bd 12 v := by
  have h1 := sB_le (l := l) (P := fun _ => true) (coef_of hval)
  have h3 := negB_val hn hval
  have h4 := sB_neg (c := c) (l := l) (v := v) (n := n) (fun i hi => litAt hval hi)
  have h5 := sB_mono (c := c) (l := l) (P := trueP v) (Q := fun _ => true) (coef_of hval) (fun _ _ _ => rfl)
  rw [evalV_yes (neg_valid hn hval), evalV_yes hval]
  unfold evW
  rw [sumW_sB (by omega) (coef_of hval), sumW_sB (by omega) (coef_of hval), h4, Bool.eq_iff_iff, Bool.not_eq_true', decide_eq_true_eq, decide_eq_false_iff_not]
  unfold negBd
  split <;> omega
theorem same_refl (n : Nat) (c l : Nat → Int) (bd : Int) : same n n c l c l bd bd = true := by simp [same, tseq_refl]
end Go.Proofs.Ytfgmkaajcbmlmaa
