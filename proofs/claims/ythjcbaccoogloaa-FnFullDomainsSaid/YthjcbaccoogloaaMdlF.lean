/- Contracts of the helpers over slices of slices of Booleans of the exact laws (no claim of its own). Conditions: as each theorem states. -/
import Derived.Test.YthjcbaccoogloaaMdlE
import Derived.Test.YthjcbaccoogloaaBoolA
namespace Go.Proofs.Ythjcbaccoogloaa
open Go.ChangeShapes Go.WideShapes Go.ChangeAt Go.RowKit

/-- A list of Booleans. -/
structure LsB where
  n : Nat
  x : Nat → Bool

/-- How many Booleans the first k lists have. -/
def totB (r : Nat → LsB) : Nat → Nat
  | 0 => 0
  | k + 1 => totB r k + (r k).n
theorem totB_le (r : Nat → LsB) {k n : Nat} (h : k ≤ n) : totB r k ≤ totB r n := by
  induction n with
  | zero =>
    obtain rfl : k = 0 := by omega
    exact Nat.le_refl _
  | succ n ih =>
    by_cases e : k = n + 1
    · subst e; exact Nat.le_refl _
    · have := ih (by omega)
      show totB r k ≤ totB r n + (r n).n
      omega
theorem totB_at (r : Nat → LsB) {k n : Nat} (h : k < n) : totB r k + (r k).n ≤ totB r n := totB_le r (show k + 1 ≤ n from h)

/-- A slice of lists of Booleans. -/
def RdLB (w : World) (B : Nat) (A : Option Addr) (n : Nat) (r : Nat → LsB) : Prop :=
  0 < n → ∃ b off, A = some ⟨b, off, none⟩ ∧ b < B ∧ ∀ i, i < n → ∃ Ai ci, w.cell? ⟨b, off + i, none⟩ = some (.slice Ai (r i).n ci) ∧ RdB w B Ai (r i).n (r i).x
theorem RdLB.below {w w' : World} {B : Nat} {A : Option Addr} {n : Nat} {r : Nat → LsB} (h : RdLB w B A n r) (hb : Below B w w') : RdLB w' B A n r := fun hn => by
  obtain ⟨b, off, e, hlt, hc⟩ := h hn
  refine ⟨b, off, e, hlt, fun i hi => ?_⟩
  obtain ⟨Ai, ci, h1, h3⟩ := hc i hi
  exact ⟨Ai, ci, (hb.cell (p := ⟨b, _, none⟩) hlt).trans h1, h3.below hb⟩
theorem RdLB.more {w : World} {B B' : Nat} {A : Option Addr} {n : Nat} {r : Nat → LsB} (h : RdLB w B A n r) (hB : B ≤ B') : RdLB w B' A n r := fun hn => by
  obtain ⟨b, off, e, hlt, hc⟩ := h hn
  refine ⟨b, off, e, by omega, fun i hi => ?_⟩
  obtain ⟨Ai, ci, h1, h3⟩ := hc i hi
  exact ⟨Ai, ci, h1, h3.more hB⟩
theorem RdLB.later {w w' : World} {A : Option Addr} {n : Nat} {r : Nat → LsB} (h : RdLB w w.heap.size A n r) (hb : Below w.heap.size w w') : RdLB w' w'.heap.size A n r := (h.below hb).more hb.size

theorem Try.infoBS : (Try.prog.info? 49).map (fun i => (i.zero, i.size, i.bytes)) = some (some (.slice none 0 0), 1, 24) := by kernel_rfl

/-- A block of the call's own that holds lists, each with ints of its own: the first k of them are known. -/
def OwnLB (w : World) (G : Nat) (n k : Nat) (r : Nat → LsB) : Prop :=
  ∃ cs : Array Value, w.heap[G]? = some (.cells cs 49 (0, 0)) ∧ cs.size = n ∧
    ∀ i, i < k → ∃ g, G < g ∧ cs[i]? = some (.slice (some ⟨g, 0, none⟩) (r i).n (r i).n) ∧ OwnB w g (r i).n (r i).n (r i).x
theorem OwnB.far {w : World} {G n k : Nat} {v : Nat → Bool} (h : OwnB w G n k v) {p : Addr} (hp : G ≠ p.block) (u : Value) : OwnB (w.setCell p u) G n k v := by
  obtain ⟨cs, hh, h1, h2⟩ := h
  exact ⟨cs, (Below.heap_setCell w p u G hp).trans hh, h1, h2⟩
section
variable {w w' : World} {G n k : Nat} {r : Nat → LsB}
theorem OwnLB.lt (h : OwnLB w G n k r) : G < w.heap.size := by
  obtain ⟨cs, hh, h1, h2⟩ := h
  rcases Nat.lt_or_ge G w.heap.size with hlt | hge
  · exact hlt
  · rw [Array.getElem?_eq_none hge] at hh; cases hh
theorem OwnLB.below (h : OwnLB w G n k r) (hb : Below w.heap.size w w') : OwnLB w' G n k r := by
  have hlt := h.lt
  obtain ⟨cs, hh, h1, h2⟩ := h
  refine ⟨cs, (hb.block G hlt).trans hh, h1, fun i hi => ?_⟩
  obtain ⟨g, hg, a, c⟩ := h2 i hi
  exact ⟨g, hg, a, c.below hb c.lt⟩
theorem OwnLB.rdAt (h : OwnLB w G n n r) : RdLB w w.heap.size (some ⟨G, 0, none⟩) n r := fun _ => by
  have hlt := h.lt
  obtain ⟨cs, hh, h1, h2⟩ := h
  refine ⟨G, 0, rfl, hlt, fun i hi => ?_⟩
  obtain ⟨g, hg, a, c⟩ := h2 i hi
  rw [Nat.zero_add]
  exact ⟨_, _, (cell_of_row w G _ cs _ _ hh).trans a, c.rdAt⟩
theorem OwnLB.cell (h : OwnLB w G n k r) {j : Nat} (hj : j < n) : ∃ u, w.cell? ⟨G, j, none⟩ = some u := by
  obtain ⟨cs, hh, h1, h2⟩ := h
  exact ⟨cs[j]'(by omega), (cell_of_row w G _ cs _ _ hh).trans (Array.getElem?_eq_getElem (by omega))⟩
theorem OwnLB.frozen (h : OwnLB w G n k r) (j : Nat) : w.frozen? ⟨G, j, none⟩ = false := by
  obtain ⟨cs, hh, h1, h2⟩ := h
  simp [World.frozen?, hh]
theorem OwnLB.put {g : Nat} (h : OwnLB w G n k r) (hk : k < n) (hg : G < g) (ho : OwnB w g (r k).n (r k).n (r k).x) :
    OwnLB (w.setCell ⟨G, k, none⟩ (.slice (some ⟨g, 0, none⟩) (r k).n (r k).n)) G n (k + 1) r := by
  obtain ⟨cs, hh, h1, h2⟩ := h
  refine ⟨cs.setIfInBounds k (.slice (some ⟨g, 0, none⟩) (r k).n (r k).n), ?_, by simp [h1], fun i hi => ?_⟩
  · simp [World.setCell, Array.getElem?_modify, hh]
  · simp only [Array.getElem?_setIfInBounds]
    by_cases e : i = k
    · subst e
      refine ⟨g, hg, ?_, ho.far (by show g ≠ G; omega) _⟩
      rw [if_pos rfl, if_pos (by omega)]
    · obtain ⟨g', hg', a, c⟩ := h2 i (by omega)
      refine ⟨g', hg', ?_, c.far (by show g' ≠ G; omega) _⟩
      rw [if_neg (by omega)]; exact a
/-- It may be held while cells of blocks that are not later than it and not the same are written. -/
theorem OwnLB.far (h : OwnLB w G n k r) {p : Addr} (hp : p.block < G) (u : Value) : OwnLB (w.setCell p u) G n k r := by
  obtain ⟨cs, hh, h1, h2⟩ := h
  refine ⟨cs, (Below.heap_setCell w p u G (by omega)).trans hh, h1, fun i hi => ?_⟩
  obtain ⟨g, hg, a, c⟩ := h2 i hi
  exact ⟨g, hg, a, c.far (by omega) _⟩
end

end Go.Proofs.Ythjcbaccoogloaa
