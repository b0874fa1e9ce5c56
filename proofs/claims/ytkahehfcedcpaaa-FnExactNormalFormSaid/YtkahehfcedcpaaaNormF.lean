/- The keys of the program's map, sorted: what they say of the rows (no claim of its own). Conditions: as each theorem states. -/
import Derived.Test.YtkahehfcedcpaaaNormD
import Derived.Test.YtkahehfcedcpaaaLays
namespace Go.Proofs.Ytkahehfcedcpaaa
open Go.ChangeShapes Go.WideShapes Go.ChangeAt Go.RowKit Go.Maps

theorem rows_gap {f : Nat → Int} {b : Int} {V v : Nat} (h : V ≤ v) (hz : ∀ u, V < u → u ≤ v → f u = 0) : rowsN f v = rowsN f V ∧ bndN f b v = bndN f b V := by
  induction v with
  | zero =>
    have : V = 0 := by omega
    subst this
    exact ⟨rfl, rfl⟩
  | succ v ih =>
    by_cases e : V = v + 1
    · subst e
      exact ⟨rfl, rfl⟩
    · obtain ⟨h1, h2⟩ := ih (by omega) (fun u h1 h2 => hz u h1 (by omega))
      have h0 := hz (v + 1) (by omega) (Nat.le_refl _)
      constructor
      · show rowsN f v ++ rowAt (f (v + 1)) (v + 1) = _
        rw [h0, rowAt_zero (by decide) (by decide), List.append_nil, h1]
      · show bAt (bndN f b v) (f (v + 1)) = _
        rw [h0, h2]
        rfl

/-- What is to come, behind the variable V. -/
structure Inv (f : Nat → Int) (V : Nat) (xs : List Int) : Prop where
  le : V ≤ 12
  all : ∀ u : Nat, V < u → u ≤ 12 → f u ≠ 0 → (u : Int) ∈ xs
  keys : ∀ x ∈ xs, ∃ v : Nat, x = v ∧ V < v ∧ v ≤ 12
  up : xs.Pairwise (fun x y => x < y)

theorem Inv.step {f : Nat → Int} {V : Nat} {x : Int} {xs : List Int} (h : Inv f V (x :: xs)) (b : Int) :
    ∃ v : Nat, x = v ∧ 1 ≤ v ∧ v ≤ 12 ∧ rowsN f v = rowsN f V ++ rowAt (f v) v ∧ bndN f b v = bAt (bndN f b V) (f v) ∧ Inv f v xs := by
  obtain ⟨v, rfl, hv1, hv2⟩ := h.keys x (List.mem_cons_self ..)
  obtain ⟨u, rfl⟩ : ∃ u, v = u + 1 := ⟨v - 1, by omega⟩
  have hup := List.pairwise_cons.1 h.up
  have hz : ∀ w : Nat, V < w → w ≤ u → f w = 0 := fun w h1 h2 => by
    by_cases e : f w = 0
    · exact e
    · have hm := h.all w h1 (by omega) e
      rcases List.mem_cons.1 hm with hm | hm
      · omega
      · have := hup.1 _ hm
        omega
  obtain ⟨g1, g2⟩ := rows_gap (b := b) (by omega) hz
  refine ⟨u + 1, rfl, by omega, hv2, ?_, ?_, hv2, ?_, ?_, hup.2⟩
  · show rowsN f u ++ _ = _
    rw [g1]
  · show bAt (bndN f b u) _ = _
    rw [g2]
  · intro w h1 h2 h3
    have hm := h.all w (by omega) h2 h3
    rcases List.mem_cons.1 hm with hm | hm
    · omega
    · exact hm
  · intro y hy
    obtain ⟨w, rfl, _, hw⟩ := h.keys y (List.mem_cons_of_mem _ hy)
    have := hup.1 _ hy
    exact ⟨w, rfl, by omega, hw⟩
theorem Inv.done {f : Nat → Int} {V : Nat} (h : Inv f V []) (b : Int) : rowsN f 12 = rowsN f V ∧ bndN f b 12 = bndN f b V :=
  rows_gap h.le fun u h1 h2 => by
    by_cases e : f u = 0
    · exact e
    · cases h.all u h1 h2 e
end Go.Proofs.Ytkahehfcedcpaaa
