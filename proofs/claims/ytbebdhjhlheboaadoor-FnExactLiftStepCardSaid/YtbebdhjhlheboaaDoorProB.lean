/- Contracts of the model's and the program's ProblemValid (no claim of its own). Conditions: as each theorem states. -/
import Derived.Test.YtbebdhjhlheboaaDoorProA
namespace Go.Proofs.YtbebdhjhlheboaaDoor
open Go.ChangeShapes Go.WideShapes Go.ChangeAt Go.RowKit

/-- One of the first k is so. -/
def anyQ (q : Nat → Bool) : Nat → Bool
  | 0 => false
  | k + 1 => anyQ q k || q k
theorem anyQ_of {q : Nat → Bool} {n k : Nat} (hk : k < n) (h : q k = true) : anyQ q n = true := by
  induction n with
  | zero => omega
  | succ n ih =>
    unfold anyQ
    by_cases e : k = n
    · subst e; rw [h, Bool.or_true]
    · rw [ih (by omega), Bool.true_or]
theorem anyQ_step {q : Nat → Bool} {k : Nat} (h : anyQ q k = false) (h1 : q k = false) : anyQ q (k + 1) = false := by
  unfold anyQ
  rw [h, h1]
  rfl
theorem anyQ_not (p : Nat → Con) (n : Nat) : (!anyQ (fun k => !validB (p k).n (p k).c (p k).l (p k).bd) n) = allV p n := by
  induction n with
  | zero => rfl
  | succ n ih =>
    unfold anyQ allV
    rw [← ih, Bool.not_or, Bool.not_not]

end Go.Proofs.YtbebdhjhlheboaaDoor
