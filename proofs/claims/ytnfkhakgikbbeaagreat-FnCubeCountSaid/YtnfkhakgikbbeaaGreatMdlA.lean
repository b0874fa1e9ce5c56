/- Contracts of the helpers over slices of slices of ints of the exact laws (no claim of its own). Conditions: as each theorem states. -/
import Derived.Test.YtnfkhakgikbbeaaGreatIntA
namespace Go.Proofs.YtnfkhakgikbbeaaGreat
open Go.ChangeShapes Go.WideShapes Go.ChangeAt Go.RowKit

/-- What is left of a budget behind a size: -1 if it does not suffice. -/
def szO (left : Int) (s : Nat) : Int := if (s : Int) ≤ left then left - s else -1
theorem szO_yes {left : Int} {s : Nat} (h : (s : Int) ≤ left) : szO left s = left - s := by unfold szO; rw [if_pos h]
theorem szO_no {left : Int} {s : Nat} (h : left < (s : Int)) : szO left s = -1 := by unfold szO; rw [if_neg (by omega)]

/-- A list of ints. -/
structure Lst where
  n : Nat
  x : Nat → Int

/-- How many ints the first k lists have. -/
def totL (r : Nat → Lst) : Nat → Nat
  | 0 => 0
  | k + 1 => totL r k + (r k).n
theorem totL_le (r : Nat → Lst) {k n : Nat} (h : k ≤ n) : totL r k ≤ totL r n := by
  induction n with
  | zero =>
    obtain rfl : k = 0 := by omega
    exact Nat.le_refl _
  | succ n ih =>
    by_cases e : k = n + 1
    · subst e; exact Nat.le_refl _
    · have := ih (by omega)
      show totL r k ≤ totL r n + (r n).n
      omega
theorem totL_at (r : Nat → Lst) {k n : Nat} (h : k < n) : totL r k + (r k).n ≤ totL r n := totL_le r (show k + 1 ≤ n from h)

/-- A slice of lists of ints. -/
def RdL (w : World) (B : Nat) (A : Option Addr) (n : Nat) (r : Nat → Lst) : Prop :=
  0 < n → ∃ b off, A = some ⟨b, off, none⟩ ∧ b < B ∧ ∀ i, i < n → ∃ Ai ci, w.cell? ⟨b, off + i, none⟩ = some (.slice Ai (r i).n ci) ∧ RdI w B Ai (r i).n (r i).x
theorem RdL.below {w w' : World} {B : Nat} {A : Option Addr} {n : Nat} {r : Nat → Lst} (h : RdL w B A n r) (hb : Below B w w') : RdL w' B A n r := fun hn => by
  obtain ⟨b, off, e, hlt, hc⟩ := h hn
  refine ⟨b, off, e, hlt, fun i hi => ?_⟩
  obtain ⟨Ai, ci, h1, h3⟩ := hc i hi
  exact ⟨Ai, ci, (hb.cell (p := ⟨b, _, none⟩) hlt).trans h1, h3.below hb⟩
theorem RdL.more {w : World} {B B' : Nat} {A : Option Addr} {n : Nat} {r : Nat → Lst} (h : RdL w B A n r) (hB : B ≤ B') : RdL w B' A n r := fun hn => by
  obtain ⟨b, off, e, hlt, hc⟩ := h hn
  refine ⟨b, off, e, by omega, fun i hi => ?_⟩
  obtain ⟨Ai, ci, h1, h3⟩ := hc i hi
  exact ⟨Ai, ci, h1, h3.more hB⟩
theorem RdL.later {w w' : World} {A : Option Addr} {n : Nat} {r : Nat → Lst} (h : RdL w w.heap.size A n r) (hb : Below w.heap.size w w') : RdL w' w'.heap.size A n r := (h.below hb).more hb.size

theorem Tryz.infoIS : (Tryz.prog.info? 24).map (fun i => (i.zero, i.size, i.bytes)) = some (some (.slice none 0 0), 1, 24) := by kernel_rfl

/-- A block of the call's own that holds lists, each with ints of its own: the first k of them are known. -/
def OwnL (w : World) (G : Nat) (n k : Nat) (r : Nat → Lst) : Prop :=
  ∃ cs : Array Value, w.heap[G]? = some (.cells cs 24 (0, 0)) ∧ cs.size = n ∧
    ∀ i, i < k → ∃ g, G < g ∧ cs[i]? = some (.slice (some ⟨g, 0, none⟩) (r i).n (r i).n) ∧ OwnI w g (r i).n (r i).n (r i).x
theorem OwnI.far {w : World} {G n k : Nat} {v : Nat → Int} (h : OwnI w G n k v) {p : Addr} (hp : G ≠ p.block) (u : Value) : OwnI (w.setCell p u) G n k v := by
  obtain ⟨cs, hh, h1, h2⟩ := h
  exact ⟨cs, (Below.heap_setCell w p u G hp).trans hh, h1, h2⟩
section
variable {w w' : World} {G n k : Nat} {r : Nat → Lst}
theorem OwnL.lt (h : OwnL w G n k r) : G < w.heap.size := by
  obtain ⟨cs, hh, h1, h2⟩ := h
  rcases Nat.lt_or_ge G w.heap.size with hlt | hge
  · exact hlt
  · rw [Array.getElem?_eq_none hge] at hh; cases hh
theorem OwnL.below (h : OwnL w G n k r) (hb : Below w.heap.size w w') : OwnL w' G n k r := by
  have hlt := h.lt
  obtain ⟨cs, hh, h1, h2⟩ := h
  refine ⟨cs, (hb.block G hlt).trans hh, h1, fun i hi => ?_⟩
  obtain ⟨g, hg, a, c⟩ := h2 i hi
  exact ⟨g, hg, a, c.below hb c.lt⟩
theorem OwnL.rdAt (h : OwnL w G n n r) : RdL w w.heap.size (some ⟨G, 0, none⟩) n r := fun _ => by
  have hlt := h.lt
  obtain ⟨cs, hh, h1, h2⟩ := h
  refine ⟨G, 0, rfl, hlt, fun i hi => ?_⟩
  obtain ⟨g, hg, a, c⟩ := h2 i hi
  rw [Nat.zero_add]
  exact ⟨_, _, (cell_of_row w G _ cs _ _ hh).trans a, c.rdAt⟩
theorem OwnL.cell (h : OwnL w G n k r) {j : Nat} (hj : j < n) : ∃ u, w.cell? ⟨G, j, none⟩ = some u := by
  obtain ⟨cs, hh, h1, h2⟩ := h
  exact ⟨cs[j]'(by omega), (cell_of_row w G _ cs _ _ hh).trans (Array.getElem?_eq_getElem (by omega))⟩
theorem OwnL.frozen (h : OwnL w G n k r) (j : Nat) : w.frozen? ⟨G, j, none⟩ = false := by
  obtain ⟨cs, hh, h1, h2⟩ := h
  simp [World.frozen?, hh]
theorem OwnL.put {g : Nat} (h : OwnL w G n k r) (hk : k < n) (hg : G < g) (ho : OwnI w g (r k).n (r k).n (r k).x) :
    OwnL (w.setCell ⟨G, k, none⟩ (.slice (some ⟨g, 0, none⟩) (r k).n (r k).n)) G n (k + 1) r := by
  obtain ⟨cs, hh, h1, h2⟩ := h
  refine ⟨cs.setIfInBounds k (.slice (some ⟨g, 0, none⟩) (r k).n (r k).n), ?_, by simp [h1], fun i hi => ?_⟩
  · simp [World.setCell, Array.getElem?_modify, hh]
  · simp only [Array.getElem?_setIfInBounds]
    by_cases e : i = k
    · subst e
      refine ⟨g, hg, ?_, ho.far (by show g ≠ G; omega) _⟩
      rw [if_pos rfl, if_pos (by omega)]
    · obtain ⟨g', hg', a, c⟩ := h2 i (by omega)
      refine ⟨g', hg', ?_, c.far (by show g' ≠ G; omega) _⟩
      rw [if_neg (by omega)]; exact a
/-- It may be held while cells of blocks that are not later than it and not the same are written. -/
theorem OwnL.far (h : OwnL w G n k r) {p : Addr} (hp : p.block < G) (u : Value) : OwnL (w.setCell p u) G n k r := by
  obtain ⟨cs, hh, h1, h2⟩ := h
  refine ⟨cs, (Below.heap_setCell w p u G (by omega)).trans hh, h1, fun i hi => ?_⟩
  obtain ⟨g, hg, a, c⟩ := h2 i hi
  exact ⟨g, hg, a, c.far (by omega) _⟩
end

end Go.Proofs.YtnfkhakgikbbeaaGreat
