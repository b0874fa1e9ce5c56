/- Contracts of the helpers over slices of Booleans of the exact laws (no claim of its own). Conditions: as each theorem states. -/
import Derived.Test.YtbebdhjhlheboaaDoorBaseC
namespace Go.Proofs.YtbebdhjhlheboaaDoor
open Go.ChangeShapes Go.WideShapes Go.ChangeAt Go.RowKit

/-- A slice of Booleans: element i is v i. -/
def RdB (w : World) (B : Nat) (A : Option Addr) (n : Nat) (v : Nat → Bool) : Prop :=
  0 < n → ∃ b off, A = some ⟨b, off, none⟩ ∧ b < B ∧ ∀ i, i < n → w.cell? ⟨b, off + i, none⟩ = some (.bool (v i))
theorem RdB.below {w w' : World} {B : Nat} {A : Option Addr} {n : Nat} {v : Nat → Bool} (h : RdB w B A n v) (hb : Below B w w') : RdB w' B A n v := fun hn => by
  obtain ⟨b, off, e, hlt, hc⟩ := h hn
  exact ⟨b, off, e, hlt, fun i hi => (hb.cell (p := ⟨b, _, none⟩) hlt).trans (hc i hi)⟩
theorem RdB.more {w : World} {B B' : Nat} {A : Option Addr} {n : Nat} {v : Nat → Bool} (h : RdB w B A n v) (hB : B ≤ B') : RdB w B' A n v := fun hn => by
  obtain ⟨b, off, e, hlt, hc⟩ := h hn
  exact ⟨b, off, e, by omega, hc⟩
theorem RdB.later {w w' : World} {A : Option Addr} {n : Nat} {v : Nat → Bool} (h : RdB w w.heap.size A n v) (hb : Below w.heap.size w w') : RdB w' w'.heap.size A n v := (h.below hb).more hb.size

/-- A block of the call's own that holds Booleans: the first k of them are known. -/
def OwnB (w : World) (G : Nat) (n k : Nat) (v : Nat → Bool) : Prop :=
  ∃ cs : Array Value, w.heap[G]? = some (.cells cs 4 (0, 0)) ∧ cs.size = n ∧ ∀ i, i < k → cs[i]? = some (.bool (v i))
theorem OwnB.below {w w' : World} {G n k : Nat} {v : Nat → Bool} {B : Nat} (h : OwnB w G n k v) (hb : Below B w w') (hG : G < B) : OwnB w' G n k v := by
  obtain ⟨cs, hh, h1, h2⟩ := h
  exact ⟨cs, (hb.block G hG).trans hh, h1, h2⟩
theorem OwnB.lt {w : World} {G n k : Nat} {v : Nat → Bool} (h : OwnB w G n k v) : G < w.heap.size := by
  obtain ⟨cs, hh, h1, h2⟩ := h
  rcases Nat.lt_or_ge G w.heap.size with hlt | hge
  · exact hlt
  · rw [Array.getElem?_eq_none hge] at hh; cases hh
theorem OwnB.rdAt {w : World} {G n : Nat} {v : Nat → Bool} (h : OwnB w G n n v) : RdB w w.heap.size (some ⟨G, 0, none⟩) n v := fun _ => by
  have hlt := h.lt
  obtain ⟨cs, hh, h1, h2⟩ := h
  refine ⟨G, 0, rfl, hlt, fun i hi => ?_⟩
  rw [Nat.zero_add]
  exact (cell_of_row w G _ cs _ _ hh).trans (h2 i hi)
theorem OwnB.cell {w : World} {G n k : Nat} {v : Nat → Bool} (h : OwnB w G n k v) {j : Nat} (hj : j < n) : ∃ u, w.cell? ⟨G, j, none⟩ = some u := by
  obtain ⟨cs, hh, h1, h2⟩ := h
  exact ⟨cs[j]'(by omega), (cell_of_row w G _ cs _ _ hh).trans (Array.getElem?_eq_getElem (by omega))⟩
theorem OwnB.frozen {w : World} {G n k : Nat} {v : Nat → Bool} (h : OwnB w G n k v) (j : Nat) : w.frozen? ⟨G, j, none⟩ = false := by
  obtain ⟨cs, hh, h1, h2⟩ := h
  simp [World.frozen?, hh]
theorem OwnB.put {w : World} {G n k : Nat} {v : Nat → Bool} (h : OwnB w G n k v) (hk : k < n) : OwnB (w.setCell ⟨G, k, none⟩ (.bool (v k))) G n (k + 1) v := by
  obtain ⟨cs, hh, h1, h2⟩ := h
  refine ⟨cs.setIfInBounds k (.bool (v k)), ?_, by simp [h1], fun i hi => ?_⟩
  · simp [World.setCell, Array.getElem?_modify, hh]
  · simp only [Array.getElem?_setIfInBounds]
    by_cases e : i = k
    · subst e
      rw [if_pos rfl, if_pos (by omega)]
    · rw [if_neg (by omega)]
      exact h2 i (by omega)

theorem Tryd.infoBool : (Tryd.prog.info? 4).map (fun i => (i.zero, i.size, i.bytes)) = some (some (.bool false), 1, 1) := by kernel_rfl

end Go.Proofs.YtbebdhjhlheboaaDoor
