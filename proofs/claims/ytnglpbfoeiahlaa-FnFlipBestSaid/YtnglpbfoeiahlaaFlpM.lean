/- Which change of one variable leaves the fewest constraints that do not hold (no claim of its own). Conditions: as each theorem states. -/
import Derived.Test.YtnglpbfoeiahlaaVioA
import Derived.Test.YtnglpbfoeiahlaaClnB
namespace Go.Proofs.Ytnglpbfoeiahlaa
open Go.ChangeShapes Go.WideShapes Go.ChangeAt Go.RowKit

/-- The values with variable i changed. -/
def flp (v : Nat → Bool) (i j : Nat) : Bool := if j = i then !v i else v j
/-- How many constraints do not hold then. -/
def cntF (n : Nat) (p : Nat → Con) (v : Nat → Bool) (i : Nat) : Nat := badN p (flp v i) n
/-- The first of the first k + 1 variables that leaves the fewest. -/
def bstF (n : Nat) (p : Nat → Con) (v : Nat → Bool) : Nat → Nat
  | 0 => 0
  | k + 1 => if cntF n p v (k + 1) < cntF n p v (bstF n p v k) then k + 1 else bstF n p v k
theorem bst_yes {n : Nat} {p : Nat → Con} {v : Nat → Bool} {k : Nat} (h : cntF n p v (k + 1) < cntF n p v (bstF n p v k)) : bstF n p v (k + 1) = k + 1 := if_pos h
theorem bst_no {n : Nat} {p : Nat → Con} {v : Nat → Bool} {k : Nat} (h : ¬ cntF n p v (k + 1) < cntF n p v (bstF n p v k)) : bstF n p v (k + 1) = bstF n p v k := if_neg h
theorem bst_le (n : Nat) (p : Nat → Con) (v : Nat → Bool) (k : Nat) : bstF n p v k ≤ k := by
  induction k with
  | zero => exact Nat.le_refl _
  | succ k ih =>
    unfold bstF
    split <;> omega
theorem bst_min (n : Nat) (p : Nat → Con) (v : Nat → Bool) (k j : Nat) (h : j ≤ k) : cntF n p v (bstF n p v k) ≤ cntF n p v j := by
  induction k with
  | zero =>
    obtain rfl : j = 0 := by omega
    exact Nat.le_refl _
  | succ k ih =>
    by_cases hc : cntF n p v (k + 1) < cntF n p v (bstF n p v k)
    · rw [bst_yes hc]
      by_cases e : j = k + 1
      · subst e; exact Nat.le_refl _
      · have := ih (by omega)
        omega
    · rw [bst_no hc]
      by_cases e : j = k + 1
      · subst e; omega
      · exact ih (by omega)
theorem cntF_le (n : Nat) (p : Nat → Con) (v : Nat → Bool) (i : Nat) : cntF n p v i ≤ n := badN_le _ _ _
/-- What FlipBest answers: how many values, which ones, how many violations. -/
def flN (n : Nat) (p : Nat → Con) (nv : Nat) : Nat := if vioOk n p nv = true then 12 else 0
def flC (n : Nat) (p : Nat → Con) (nv : Nat) (v : Nat → Bool) : Nat := if vioOk n p nv = true then cntF n p v (bstF n p v 11) else 0
def flV (n : Nat) (p : Nat → Con) (v : Nat → Bool) : Nat → Bool := flp v (bstF n p v 11)
theorem fl_no {n : Nat} {p : Nat → Con} {nv : Nat} {v : Nat → Bool} (h : vioOk n p nv = false) : flN n p nv = 0 ∧ flC n p nv v = 0 := by simp [flN, flC, h]
theorem fl_yes {n : Nat} {p : Nat → Con} {nv : Nat} {v : Nat → Bool} (h : vioOk n p nv = true) : flN n p nv = 12 ∧ flC n p nv v = cntF n p v (bstF n p v 11) := by simp [flN, flC, h]
theorem flN_le (n : Nat) (p : Nat → Con) (nv : Nat) : flN n p nv ≤ 12 := by unfold flN; split <;> omega
/-- What FlipBest leaves. -/
def FlRes (w : World) (n : Nat) (p : Nat → Con) (nv : Nat) (v : Nat → Bool) (e : Ending) (w' : World) : Prop :=
  ∃ A cap, e = .returned (.tuple #[.slice A (flN n p nv) cap, .int .i64 (flC n p nv v : Int), .bool (vioOk n p nv)]) ∧ FrB w' w.heap.size 4 A (flN n p nv) (flV n p v) ∧ Below w.heap.size w w'
theorem flRes_no {w w' : World} {n : Nat} {p : Nat → Con} {nv : Nat} {v : Nat → Bool} {A : Option Addr} {cap : Nat} (h : vioOk n p nv = false) (hb : Below w.heap.size w w') : FlRes w n p nv v (.returned (.tuple #[.slice A 0 cap, .int .i64 0, .bool false])) w' := by
  obtain ⟨h1, h2⟩ := fl_no (v := v) h
  exact ⟨A, cap, by rw [h1, h2, h]; rfl, .inl h1, hb⟩
theorem flRes_yes {w w' : World} {n : Nat} {p : Nat → Con} {nv : Nat} {v : Nat → Bool} {g cap : Nat} (h : vioOk n p nv = true) (hg : w.heap.size ≤ g) (ho : OwnVb w' g 4 12 12 (flp v (bstF n p v 11))) (hb : Below w.heap.size w w') : FlRes w n p nv v (.returned (.tuple #[.slice (some ⟨g, 0, none⟩) 12 cap, .int .i64 (cntF n p v (bstF n p v 11) : Int), .bool true])) w' := by
  obtain ⟨h1, h2⟩ := fl_yes (v := v) h
  exact ⟨_, cap, by rw [h1, h2, h], .inr ⟨g, rfl, hg, by rw [h1]; exact ho⟩, hb⟩
/-- The state of either loop behind k changes: the best one so far, and what it leaves. -/
def FlSt (w : World) (n : Nat) (p : Nat → Con) (v : Nat → Bool) (k : Nat) (wr : World) (b : Value) (c : Int) : Prop :=
  ∃ j g cap, k = j + 1 ∧ b = .slice (some ⟨g, 0, none⟩) 12 cap ∧ w.heap.size ≤ g ∧ OwnVb wr g 4 12 12 (flp v (bstF n p v j)) ∧ c = (cntF n p v (bstF n p v j) : Int)
section
variable {w wr w' : World} {n : Nat} {p : Nat → Con} {v : Nat → Bool} {k : Nat} {b : Value} {c : Int} {g cap : Nat}
theorem FlSt.below (h : FlSt w n p v k wr b c) (hb : Below wr.heap.size wr w') : FlSt w n p v k w' b c := by
  obtain ⟨j, g, cap, h1, h2, h3, h4, h5⟩ := h
  exact ⟨j, g, cap, h1, h2, h3, h4.below hb, h5⟩
theorem flSt_first (hg : w.heap.size ≤ g) (ho : OwnVb wr g 4 12 12 (flp v 0)) : FlSt w n p v 1 wr (.slice (some ⟨g, 0, none⟩) 12 cap) (cntF n p v 0 : Int) := ⟨0, g, cap, rfl, rfl, hg, ho, rfl⟩
theorem FlSt.better (h : FlSt w n p v k wr b c) (hlt : (cntF n p v k : Int) < c) (hg : w.heap.size ≤ g) (ho : OwnVb wr g 4 12 12 (flp v k)) : FlSt w n p v (k + 1) wr (.slice (some ⟨g, 0, none⟩) 12 cap) (cntF n p v k : Int) := by
  obtain ⟨j, g0, cap0, rfl, h2, h3, h4, rfl⟩ := h
  have e : bstF n p v (j + 1) = j + 1 := bst_yes (by omega)
  exact ⟨j + 1, g, cap, rfl, rfl, hg, by rw [e]; exact ho, by rw [e]⟩
theorem FlSt.worse (h : FlSt w n p v k wr b c) (hge : ¬ (cntF n p v k : Int) < c) : FlSt w n p v (k + 1) wr b c := by
  obtain ⟨j, g0, cap0, rfl, h2, h3, h4, rfl⟩ := h
  have e : bstF n p v (j + 1) = bstF n p v j := bst_no (by omega)
  exact ⟨j + 1, g0, cap0, rfl, h2, h3, by rw [e]; exact h4, by rw [e]⟩
end
end Go.Proofs.Ytnglpbfoeiahlaa
