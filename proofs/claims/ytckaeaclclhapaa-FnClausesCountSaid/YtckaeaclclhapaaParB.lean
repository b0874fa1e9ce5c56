/- Contracts of the model's and the program's PartialValid (no claim of its own). Conditions: as each theorem states. -/
import Derived.Test.YtckaeaclclhapaaParA
namespace Go.Proofs.Ytckaeaclclhapaa
open Go.ChangeShapes Go.WideShapes Go.ChangeAt Go.RowKit Go.Shelf

theorem ret_bool' {a b : Bool} (h : a = b) : Ending.returned (.bool a) = .returned (.bool b) := by rw [h]

/-- The least of the first k values; the greatest. -/
def MinP (v : Nat → Int) (k : Nat) (m : Int) : Prop := (∀ i, i < k → m ≤ v i) ∧ ∃ i, i < k ∧ m = v i
def MaxP (v : Nat → Int) (k : Nat) (m : Int) : Prop := (∀ i, i < k → v i ≤ m) ∧ ∃ i, i < k ∧ m = v i
theorem MinP.one (v : Nat → Int) : MinP v 1 (v 0) := by
  refine ⟨fun i hi => ?_, 0, by omega, rfl⟩
  obtain rfl : i = 0 := by omega
  exact Int.le_refl _
theorem MaxP.one (v : Nat → Int) : MaxP v 1 (v 0) := by
  refine ⟨fun i hi => ?_, 0, by omega, rfl⟩
  obtain rfl : i = 0 := by omega
  exact Int.le_refl _
theorem MinP.new {v : Nat → Int} {k : Nat} {m : Int} (h : MinP v k m) (hlt : v k < m) : MinP v (k + 1) (v k) := ⟨fun i hi => by
  by_cases e : i = k
  · subst e; exact Int.le_refl _
  · have := h.1 i (by omega); omega, k, by omega, rfl⟩
theorem MinP.old {v : Nat → Int} {k : Nat} {m : Int} (h : MinP v k m) (hge : m ≤ v k) : MinP v (k + 1) m := ⟨fun i hi => by
  by_cases e : i = k
  · subst e; exact hge
  · exact h.1 i (by omega), by obtain ⟨i, hi, e⟩ := h.2; exact ⟨i, by omega, e⟩⟩
theorem MaxP.new {v : Nat → Int} {k : Nat} {m : Int} (h : MaxP v k m) (hlt : m < v k) : MaxP v (k + 1) (v k) := ⟨fun i hi => by
  by_cases e : i = k
  · subst e; exact Int.le_refl _
  · have := h.1 i (by omega); omega, k, by omega, rfl⟩
theorem MaxP.old {v : Nat → Int} {k : Nat} {m : Int} (h : MaxP v k m) (hge : v k ≤ m) : MaxP v (k + 1) m := ⟨fun i hi => by
  by_cases e : i = k
  · subst e; exact hge
  · exact h.1 i (by omega), by obtain ⟨i, hi, e⟩ := h.2; exact ⟨i, by omega, e⟩⟩

end Go.Proofs.Ytckaeaclclhapaa
