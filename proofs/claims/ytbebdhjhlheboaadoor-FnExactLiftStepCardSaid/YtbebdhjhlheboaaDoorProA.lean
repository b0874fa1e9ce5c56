/- Contracts of the helpers over slices of constraints of the exact laws (no claim of its own). Conditions: as each theorem states. -/
import Derived.Test.YtbebdhjhlheboaaDoorComA
namespace Go.Proofs.YtbebdhjhlheboaaDoor
open Go.ChangeShapes Go.WideShapes Go.ChangeAt Go.RowKit

/-- What a constraint says. -/
structure Con where
  n : Nat
  bd : Int
  c : Nat → Int
  l : Nat → Int

/-- A slice of constraints: element i says what p i says. -/
def RdP (w : World) (B : Nat) (A : Option Addr) (n : Nat) (p : Nat → Con) : Prop :=
  0 < n → ∃ b off, A = some ⟨b, off, none⟩ ∧ b < B ∧ ∀ i, i < n → ∃ Ai ci, w.cell? ⟨b, off + i * 2, none⟩ = some (.slice Ai (p i).n ci) ∧ w.cell? ⟨b, off + i * 2 + 1, none⟩ = some (.int .i64 (p i).bd) ∧ Rd w B Ai (p i).n (p i).c (p i).l
theorem RdP.below {w w' : World} {B : Nat} {A : Option Addr} {n : Nat} {p : Nat → Con} (h : RdP w B A n p) (hb : Below B w w') : RdP w' B A n p := fun hn => by
  obtain ⟨b, off, e, hlt, hc⟩ := h hn
  refine ⟨b, off, e, hlt, fun i hi => ?_⟩
  obtain ⟨Ai, ci, h1, h2, h3⟩ := hc i hi
  exact ⟨Ai, ci, (hb.cell (p := ⟨b, _, none⟩) hlt).trans h1, (hb.cell (p := ⟨b, _, none⟩) hlt).trans h2, h3.below hb⟩
theorem RdP.more {w : World} {B B' : Nat} {A : Option Addr} {n : Nat} {p : Nat → Con} (h : RdP w B A n p) (hB : B ≤ B') : RdP w B' A n p := fun hn => by
  obtain ⟨b, off, e, hlt, hc⟩ := h hn
  refine ⟨b, off, e, by omega, fun i hi => ?_⟩
  obtain ⟨Ai, ci, h1, h2, h3⟩ := hc i hi
  exact ⟨Ai, ci, h1, h2, h3.more hB⟩
theorem RdP.later {w w' : World} {A : Option Addr} {n : Nat} {p : Nat → Con} (h : RdP w w.heap.size A n p) (hb : Below w.heap.size w w') : RdP w' w'.heap.size A n p := (h.below hb).more hb.size

/-- How many terms the first k constraints have. -/
def tot (p : Nat → Con) : Nat → Nat
  | 0 => 0
  | k + 1 => tot p k + (p k).n
theorem tot_le (p : Nat → Con) {k n : Nat} (h : k ≤ n) : tot p k ≤ tot p n := by
  induction n with
  | zero =>
    obtain rfl : k = 0 := by omega
    exact Nat.le_refl _
  | succ n ih =>
    by_cases e : k = n + 1
    · subst e; exact Nat.le_refl _
    · have := ih (by omega)
      show tot p k ≤ tot p n + (p n).n
      omega
theorem tot_at (p : Nat → Con) {k n : Nat} (h : k < n) : tot p k + (p k).n ≤ tot p n := tot_le p (show k + 1 ≤ n from h)

theorem Tryd.infoCon : (Tryd.prog.info? 31).map (fun i => (i.zero, i.size, i.bytes)) = some (some (.agg #[.slice none 0 0, .int .i64 0]), 2, 32) := by kernel_rfl

/-- A block of the call's own that holds constraints, each with terms of its own: the first k of them are known. -/
def OwnP (w : World) (G : Nat) (n k : Nat) (p : Nat → Con) : Prop :=
  ∃ cs : Array Value, w.heap[G]? = some (.cells cs 31 (0, 0)) ∧ cs.size = n * 2 ∧
    ∀ i, i < k → ∃ g, G < g ∧ cs[i * 2]? = some (.slice (some ⟨g, 0, none⟩) (p i).n (p i).n) ∧ cs[i * 2 + 1]? = some (.int .i64 (p i).bd) ∧ OwnT w g (p i).n (p i).n (p i).c (p i).l
section
variable {w w' : World} {G n k : Nat} {p : Nat → Con}
theorem OwnP.lt (h : OwnP w G n k p) : G < w.heap.size := by
  obtain ⟨cs, hh, h1, h2⟩ := h
  rcases Nat.lt_or_ge G w.heap.size with hlt | hge
  · exact hlt
  · rw [Array.getElem?_eq_none hge] at hh; cases hh
theorem OwnP.below (h : OwnP w G n k p) (hb : Below w.heap.size w w') : OwnP w' G n k p := by
  have hlt := h.lt
  obtain ⟨cs, hh, h1, h2⟩ := h
  refine ⟨cs, (hb.block G hlt).trans hh, h1, fun i hi => ?_⟩
  obtain ⟨g, hg, a, b, c⟩ := h2 i hi
  exact ⟨g, hg, a, b, c.below hb c.lt⟩
theorem OwnP.rdAt (h : OwnP w G n n p) : RdP w w.heap.size (some ⟨G, 0, none⟩) n p := fun _ => by
  have hlt := h.lt
  obtain ⟨cs, hh, h1, h2⟩ := h
  refine ⟨G, 0, rfl, hlt, fun i hi => ?_⟩
  obtain ⟨g, hg, a, b, c⟩ := h2 i hi
  rw [Nat.zero_add]
  exact ⟨_, _, (cell_of_row w G _ cs _ _ hh).trans a, (cell_of_row w G _ cs _ _ hh).trans b, c.rdAt⟩
theorem OwnP.cell (h : OwnP w G n k p) {j : Nat} (hj : j < n * 2) : ∃ u, w.cell? ⟨G, j, none⟩ = some u := by
  obtain ⟨cs, hh, h1, h2⟩ := h
  exact ⟨cs[j]'(by omega), (cell_of_row w G _ cs _ _ hh).trans (Array.getElem?_eq_getElem (by omega))⟩
theorem OwnP.frozen (h : OwnP w G n k p) (j : Nat) : w.frozen? ⟨G, j, none⟩ = false := by
  obtain ⟨cs, hh, h1, h2⟩ := h
  simp [World.frozen?, hh]
theorem OwnP.put {g : Nat} (h : OwnP w G n k p) (hk : k < n) (hg : G < g) (ho : OwnT w g (p k).n (p k).n (p k).c (p k).l) :
    OwnP ((w.setCell ⟨G, k * 2, none⟩ (.slice (some ⟨g, 0, none⟩) (p k).n (p k).n)).setCell ⟨G, k * 2 + 1, none⟩ (.int .i64 (p k).bd)) G n (k + 1) p := by
  obtain ⟨cs, hh, h1, h2⟩ := h
  refine ⟨(cs.setIfInBounds (k * 2) (.slice (some ⟨g, 0, none⟩) (p k).n (p k).n)).setIfInBounds (k * 2 + 1) (.int .i64 (p k).bd), ?_, by simp [h1], fun i hi => ?_⟩
  · simp [World.setCell, Array.getElem?_modify, hh]
  · simp only [Array.getElem?_setIfInBounds]
    by_cases e : i = k
    · subst e
      refine ⟨g, hg, ?_, ?_, (ho.far (by show g ≠ G; omega) _).far (by show g ≠ G; omega) _⟩
      · rw [if_neg (by omega), if_pos rfl, if_pos (by omega)]
      · rw [if_pos rfl, if_pos (by simp; omega)]
    · obtain ⟨g', hg', a, b, c⟩ := h2 i (by omega)
      refine ⟨g', hg', ?_, ?_, (c.far (by show g' ≠ G; omega) _).far (by show g' ≠ G; omega) _⟩
      · rw [if_neg (by omega), if_neg (by omega)]; exact a
      · rw [if_neg (by omega), if_neg (by omega)]; exact b
end

/-- The first k constraints are valid. -/
def allV (p : Nat → Con) : Nat → Bool
  | 0 => true
  | k + 1 => allV p k && validB (p k).n (p k).c (p k).l (p k).bd
/-- Whether a list of constraints is a problem. -/
def probB (n : Nat) (p : Nat → Con) : Bool := allV p n && decide (n ≤ 400)
theorem allV_at {p : Nat → Con} {n k : Nat} (h : allV p n = true) (hk : k < n) : validB (p k).n (p k).c (p k).l (p k).bd = true := by
  induction n with
  | zero => omega
  | succ n ih =>
    unfold allV at h
    rw [Bool.and_eq_true] at h
    by_cases e : k = n
    · subst e; exact h.2
    · exact ih h.1 (by omega)
theorem allV_no {p : Nat → Con} {n k : Nat} (h : validB (p k).n (p k).c (p k).l (p k).bd = false) (hk : k < n) : allV p n = false := by
  cases hv : allV p n with
  | false => rfl
  | true => rw [allV_at hv hk] at h; cases h
theorem allV_yes {p : Nat → Con} {k : Nat} (h : allV p k = true) (h1 : validB (p k).n (p k).c (p k).l (p k).bd = true) : allV p (k + 1) = true := by
  unfold allV
  rw [h, h1]
  rfl
end Go.Proofs.YtbebdhjhlheboaaDoor
