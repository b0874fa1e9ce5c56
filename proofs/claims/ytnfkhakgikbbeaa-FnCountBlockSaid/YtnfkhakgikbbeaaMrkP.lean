/- The marking of a problem that a call has made (no claim of its own). Conditions: as each theorem states. -/
import Derived.Test.YtnfkhakgikbbeaaMrkR
import Derived.Test.YtnfkhakgikbbeaaProA
namespace Go.Proofs.Ytnfkhakgikbbeaa
open Go.ChangeShapes Go.WideShapes Go.ChangeAt Go.RowKit

/-- The heads of a row of constraints that lies in block G: each leads to room for its terms, in another block of the range. -/
def HdP (w : World) (lo hi G n : Nat) (ns : Nat → Nat) : Prop :=
  ∃ cs : Array Value, w.heap[G]? = some (.cells cs 39 (0, 0)) ∧ n * 2 ≤ cs.size ∧
    ∀ i, i < n → ∃ g ci, cs[i * 2]? = some (.slice (some ⟨g, 0, none⟩) (ns i) ci) ∧ g ≠ G ∧ lo ≤ g ∧ g < hi ∧ Room w g 73 (ns i * 2)
section
variable {w w' : World} {lo hi G n : Nat} {ns : Nat → Nat}
theorem HdP.room (h : HdP w lo hi G n ns) : Room w G 39 (n * 2) := by
  obtain ⟨cs, h1, h2, _⟩ := h
  exact ⟨cs, h1, h2⟩
theorem HdP.keep (h : HdP w lo hi G n ns) (hg : w'.heap[G]? = w.heap[G]?) (hs : Shp w w') : HdP w' lo hi G n ns := by
  obtain ⟨cs, h1, h2, h3⟩ := h
  refine ⟨cs, hg.trans h1, h2, fun i hi => ?_⟩
  obtain ⟨g, ci, a, b, c, d, e⟩ := h3 i hi
  exact ⟨g, ci, a, b, c, d, e.shp hs⟩
theorem HdP.set_ (h : HdP w lo hi G n ns) (j : Nat) (u : Value) : HdP (w.setCell ⟨G, j * 2 + 1, none⟩ u) lo hi G n ns := by
  obtain ⟨cs, h1, h2, h3⟩ := h
  refine ⟨cs.setIfInBounds (j * 2 + 1) u, by simp [World.setCell, Array.getElem?_modify, h1], by simp [h2], fun i hi => ?_⟩
  obtain ⟨g, ci, a, b, c, d, e⟩ := h3 i hi
  exact ⟨g, ci, by rw [Array.getElem?_setIfInBounds, if_neg (by omega)]; exact a, b, c, d, e.shp ((Shp.refl _).set_ _ _ _)⟩
end
theorem OwnP.hd {w : World} {lo G n : Nat} {p : Nat → Con} (h : OwnP w G n n p) (hlo : lo ≤ G) : HdP w lo w.heap.size G n (fun i => (p i).n) := by
  obtain ⟨cs, h1, h2, h3⟩ := h
  refine ⟨cs, h1, by omega, fun i hi => ?_⟩
  obtain ⟨g, hg, a, b, c⟩ := h3 i hi
  have hlt := c.lt
  obtain ⟨ds, d1, d2, _⟩ := c
  exact ⟨g, _, a, by omega, by omega, hlt, ds, d1, Nat.le_of_eq d2.symm⟩

end Go.Proofs.Ytnfkhakgikbbeaa
