/- ModelSame: lists of ints compared (no claim of its own). Conditions: as each theorem states. -/
import Derived.Test.YtafiikfaeomhpaaMdlE
namespace Go.Proofs.Ytafiikfaeomhpaa
open Go.ChangeShapes Go.WideShapes Go.ChangeAt Go.RowKit

/-- The first k are true. -/
def prE (e : Nat → Bool) : Nat → Bool
  | 0 => true
  | k + 1 => prE e k && e k
theorem prE_no {e : Nat → Bool} {n k : Nat} (hk : k < n) (h : e k = false) : prE e n = false := by
  induction n with
  | zero => omega
  | succ n ih =>
    unfold prE
    by_cases q : k = n
    · subst q; rw [h]; simp
    · rw [ih (by omega)]; rfl
theorem prE_yes {e : Nat → Bool} {k : Nat} (h0 : prE e k = true) (h : e k = true) : prE e (k + 1) = true := by
  unfold prE; rw [h0, h]; rfl

/-- Two lists are equal. -/
def lsE (l l' : Lst) : Bool := l.n == l'.n && prE (fun i => l.x i == l'.x i) l.n
def rwE (n : Nat) (r : Nat → Lst) (n' : Nat) (r' : Nat → Lst) : Bool := n == n' && prE (fun i => lsE (r i) (r' i)) n
/-- Two rules are equal. -/
def ruE (q q' : Rul) : Bool := q.k == q'.k && (q.bd == q'.bd && (lsE q.v q'.v && (lsE q.c q'.c && rwE q.n q.r q'.n q'.r)))
/-- Two models are equal. -/
def mdE (s s' : Lst) (n : Nat) (q : Nat → Rul) (n' : Nat) (q' : Nat → Rul) : Bool := lsE s s' && (n == n' && prE (fun i => ruE (q i) (q' i)) n)

section
end
end Go.Proofs.Ytafiikfaeomhpaa
