/- Contracts of the copying and comparing helpers of the exact laws (no claim of its own). Conditions: as each theorem states. -/
import Derived.Test.YtckaeaclclhapaaBaseB
import Derived.StillTailTactics
namespace Go.Proofs.Ytckaeaclclhapaa
open Go.ChangeShapes Go.WideShapes Go.ChangeAt Go.RowKit

theorem bcell {W w1 : World} (hb : Below W.heap.size W w1) : (∀ b o, b < W.heap.size → w1.cell? ⟨b, o, none⟩ = W.cell? ⟨b, o, none⟩) ∧ (∀ b o, b < W.heap.size → w1.frozen? ⟨b, o, none⟩ = W.frozen? ⟨b, o, none⟩) :=
  ⟨fun b o h => hb.cell (p := ⟨b, o, none⟩) h, fun b o h => hb.frozen (p := ⟨b, o, none⟩) h⟩

theorem OwnT.far {w : World} {G n k : Nat} {c l : Nat → Int} (h : OwnT w G n k c l) {p : Addr} (hp : G ≠ p.block) (u : Value) : OwnT (w.setCell p u) G n k c l := by
  obtain ⟨cs, hh, h1, h2⟩ := h
  exact ⟨cs, (Below.heap_setCell w p u G hp).trans hh, h1, h2⟩

theorem ret_bool {a b : Bool} (h : a = b) : Ending.returned (.bool a) = .returned (.bool b) := by rw [h]

/-- The first k terms are equal. -/
def tseq (c l c' l' : Nat → Int) : Nat → Bool
  | 0 => true
  | k + 1 => tseq c l c' l' k && teq (c k) (l k) (c' k) (l' k)

theorem tseq_no {c l c' l' : Nat → Int} {n k : Nat} (hk : k < n) (h : (!teq (c k) (l k) (c' k) (l' k)) = true) : tseq c l c' l' n = false := by
  induction n with
  | zero => omega
  | succ n ih =>
    by_cases e : k = n
    · subst e
      unfold tseq
      rw [Bool.not_eq_true'] at h
      simp [h]
    · unfold tseq
      simp [ih (by omega)]
theorem tseq_yes {c l c' l' : Nat → Int} {k : Nat} (h0 : tseq c l c' l' k = true) (h : (!teq (c k) (l k) (c' k) (l' k)) = false) : tseq c l c' l' (k + 1) = true := by
  unfold tseq
  rw [h0]
  simpa using h
theorem tseq_refl (c l : Nat → Int) (n : Nat) : tseq c l c l n = true := by
  induction n with
  | zero => rfl
  | succ n ih => unfold tseq; simp [ih, teq]

/-- Two constraints with the same number of terms are compared. -/
def ceq (n : Nat) (c l c' l' : Nat → Int) (bd bd' : Int) : Bool := tseq c l c' l' n && bd == bd'

end Go.Proofs.Ytckaeaclclhapaa
