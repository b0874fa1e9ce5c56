/- Contracts of the program's scaling: MultiplyConstraint and DivideConstraint (no claim of its own). Conditions: as each theorem states. -/
import Derived.Test.YtfkgcniphgigeaaInfA
import Derived.Test.YtfkgcniphgigeaaCloA
import Derived.Shelf.Abstract
import Derived.StillTailTactics
import Derived.Outline
namespace Go.Proofs.Ytfkgcniphgigeaa
open Go.ChangeShapes Go.WideShapes Go.ChangeAt Go.RowKit Go.Shelf

/-- Whether the arguments of a scaling are as the rule describes them. -/
def scaR (n : Nat) (c l : Nat → Int) (bd k : Int) : Bool := validB n c l bd && (decide (1 ≤ k) && decide (k ≤ 1000))
theorem scaR_iff {n : Nat} {c l : Nat → Int} {bd k : Int} : scaR n c l bd k = true ↔ validB n c l bd = true ∧ 1 ≤ k ∧ k ≤ 1000 := by simp [scaR]

/-- A product, as Go computes it; a quotient, rounded up, as Go computes it. -/
def mulK (x k : Int) : Int := wrap64 (x * k)
def divK (x k : Int) : Int := (x + k - 1) / k

end Go.Proofs.Ytfkgcniphgigeaa
