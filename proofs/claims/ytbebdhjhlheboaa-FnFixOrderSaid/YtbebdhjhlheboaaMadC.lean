/- Constraints that a call lays one by one into a slice that it has made (no claim of its own). Conditions: as each theorem states. -/
import Derived.Test.YtbebdhjhlheboaaMkCs
namespace Go.Proofs.Ytbebdhjhlheboaa
open Go.ChangeShapes Go.WideShapes Go.ChangeAt Go.RowKit

/-- Block G holds n constraints; the terms of the first k, known, lie in blocks of their own. -/
structure MadC (w : World) (B hi G n k : Nat) (p : Nat → Con) (f : Nat → Nat) : Prop where
  row : ∃ cs : Array Value, w.heap[G]? = some (.cells cs 55 (0, 0)) ∧ cs.size = n * 2 ∧ ∀ i, i < k → ∃ Ai ci, cs[i * 2]? = some (.slice Ai (p i).n ci) ∧ cs[i * 2 + 1]? = some (.int .i64 (p i).bd) ∧ ((p i).n = 0 ∨ (Ai = some ⟨f i, 0, none⟩ ∧ B ≤ f i ∧ f i < hi ∧ OwnU w (f i) (p i).n (p i).n (p i).c (p i).l))
  inj : ∀ i j, i < k → j < k → (p i).n ≠ 0 → (p j).n ≠ 0 → i ≠ j → f i ≠ f j
section
variable {w W w' : World} {B hi hi' G n k : Nat} {p : Nat → Con} {f : Nat → Nat}
theorem MadC.lt (h : MadC w B hi G n k p f) : G < w.heap.size := by
  obtain ⟨cs, hh, _⟩ := h.row
  exact block_lt hh
theorem MadC.cell (h : MadC w B hi G n k p f) {j : Nat} (hj : j < n * 2) : ∃ u, w.cell? ⟨G, j, none⟩ = some u := by
  obtain ⟨cs, hh, h1, h2⟩ := h.row
  exact ⟨cs[j]'(by omega), (cell_of_row w G _ cs _ _ hh).trans (Array.getElem?_eq_getElem (by omega))⟩
theorem MadC.frozen (h : MadC w B hi G n k p f) (j : Nat) : w.frozen? ⟨G, j, none⟩ = false := by
  obtain ⟨cs, hh, h1, h2⟩ := h.row
  simp [World.frozen?, hh]
theorem MadC.below (h : MadC w B hi G n k p f) (hb : Below w.heap.size w W) : MadC W B hi G n k p f := by
  have hlt := h.lt
  obtain ⟨cs, hh, h1, h2⟩ := h.row
  refine ⟨⟨cs, (hb.block G hlt).trans hh, h1, fun i hi0 => ?_⟩, h.inj⟩
  obtain ⟨Ai, ci, a, b, c⟩ := h2 i hi0
  exact ⟨Ai, ci, a, b, c.imp id fun ⟨c1, c2, c3, c4⟩ => ⟨c1, c2, c3, c4.below hb⟩⟩
theorem MadC.next (h : MadC w B hi G n k p f) (hb : Below w.heap.size w W) (hk : k < n) (hB : B ≤ hi) (hhi : hi ≤ w.heap.size) {A : Option Addr} {ci : Nat} (hel : Frs W w.heap.size A (p k).n (p k).c (p k).l) :
    ∃ f', MadC ((W.setCell ⟨G, k * 2, none⟩ (.slice A (p k).n ci)).setCell ⟨G, k * 2 + 1, none⟩ (.int .i64 (p k).bd)) B W.heap.size G n (k + 1) p f' := by
  have htyp : ∀ {g m : Nat} {c l : Nat → Int} {cur : Array Value}, OwnU W g m m c l → W.heap[G]? = some (.cells cur 55 (0, 0)) → g ≠ G := fun hu hh e => by
    obtain ⟨cs, h3, _⟩ := hu
    rw [e, hh] at h3
    injection h3 with h3
    injection h3 with _ h4 _
    exact absurd h4 (by decide)
  obtain ⟨cs, hh, h1, h2⟩ := h.row
  have hW : W.heap[G]? = some (.cells cs 55 (0, 0)) := (hb.block G (block_lt hh)).trans hh
  have hfar : ∀ {g m : Nat} {c l : Nat → Int}, OwnU W g m m c l → OwnU ((W.setCell ⟨G, k * 2, none⟩ (.slice A (p k).n ci)).setCell ⟨G, k * 2 + 1, none⟩ (.int .i64 (p k).bd)) g m m c l := fun hu => (hu.at_ (Below.heap_setCell W ⟨G, k * 2, none⟩ _ _ (htyp hu hW))).at_ (Below.heap_setCell _ ⟨G, k * 2 + 1, none⟩ _ _ (htyp hu hW))
  have hold : ∀ i, i < k → (p i).n ≠ 0 → f i < hi := fun i hi1 hz => by
    obtain ⟨_, _, _, _, h3⟩ := h2 i hi1
    rcases h3 with e | ⟨_, _, c, _⟩
    · exact absurd e hz
    · exact c
  have hws := hb.size
  obtain ⟨g1, hg1⟩ : ∃ g1, (p k).n = 0 ∨ (A = some ⟨g1, 0, none⟩ ∧ w.heap.size ≤ g1 ∧ OwnU W g1 (p k).n (p k).n (p k).c (p k).l) := by
    rcases hel with e | ⟨g, e, h1, h2⟩
    · exact ⟨0, .inl e⟩
    · exact ⟨g, .inr ⟨e, h1, h2⟩⟩
  refine ⟨fun i => if i = k then g1 else f i, ⟨(cs.setIfInBounds (k * 2) (.slice A (p k).n ci)).setIfInBounds (k * 2 + 1) (.int .i64 (p k).bd), ?_, by simp [h1], fun i hi1 => ?_⟩, fun i j hi1 hj1 hz1 hz2 hne => ?_⟩
  · simp [World.setCell, Array.getElem?_modify, hW]
  · simp only [Array.getElem?_setIfInBounds]
    by_cases e : i = k
    · subst e
      refine ⟨A, ci, ?_, ?_, ?_⟩
      · rw [if_neg (by omega), if_pos rfl, if_pos (by omega)]
      · rw [if_pos rfl, if_pos (by simp; omega)]
      · rcases hg1 with e | ⟨a1, a2, a3⟩
        · exact .inl e
        · exact .inr ⟨by rw [if_pos rfl]; exact a1, by rw [if_pos rfl]; omega, by rw [if_pos rfl]; exact a3.lt, by rw [if_pos rfl]; exact hfar a3⟩
    · obtain ⟨Ai, ci', a, b, h3⟩ := h2 i (by omega)
      refine ⟨Ai, ci', ?_, ?_, ?_⟩
      · rw [if_neg (by omega), if_neg (by omega)]; exact a
      · rw [if_neg (by omega), if_neg (by omega)]; exact b
      · simp only [if_neg e]
        rcases h3 with e3 | ⟨a1, a2, a3, a4⟩
        · exact .inl e3
        · exact .inr ⟨a1, a2, by omega, hfar (a4.below hb)⟩
  · have hnew1 : (p k).n ≠ 0 → hi ≤ g1 := fun hz => by
      rcases hg1 with e | ⟨_, a2, _⟩
      · exact absurd e hz
      · omega
    show (if i = k then g1 else f i) ≠ (if j = k then g1 else f j)
    by_cases e : i = k
    · have e2 : j ≠ k := fun e' => hne (by omega)
      rw [if_pos e, if_neg e2]
      have h1 := hold j (by omega) hz2
      have h2 := hnew1 (by rw [← e]; exact hz1)
      omega
    · by_cases e2 : j = k
      · rw [if_pos e2, if_neg e]
        have h1 := hold i (by omega) hz1
        have h2 := hnew1 (by rw [← e2]; exact hz2)
        omega
      · rw [if_neg e, if_neg e2]
        exact h.inj i j (by omega) (by omega) hz1 hz2 hne
theorem MadC.fin (h : MadC w B hi G n n p f) (hG : B ≤ G) : FrC w B (some ⟨G, 0, none⟩) n p := by
  obtain ⟨cs, hh, h1, h2⟩ := h.row
  refine ⟨f, ⟨.inr ⟨G, cs, rfl, hh, fun i hi => ?_⟩, fun i hi => ?_, h.inj⟩, fun b hb => ?_⟩
  · obtain ⟨Ai, ci, a, b, c⟩ := h2 i hi
    exact ⟨Ai, ci, a, b, c.imp id fun x => x.1⟩
  · obtain ⟨Ai, ci, a, b, c⟩ := h2 i hi
    exact c.imp id fun x => x.2.2.2
  · rcases hb with ⟨_, a, ha, rfl⟩ | ⟨i, hi, hz, rfl⟩
    · cases ha
      exact hG
    · obtain ⟨Ai, ci, _, _, h3⟩ := h2 i hi
      rcases h3 with e | ⟨_, b, _, _⟩
      · exact absurd e hz
      · exact b
end
theorem madC_new (w : World) (B hi n : Nat) (p : Nat → Con) (f : Nat → Nat) (cs : Array Value) (h : cs.size = n * 2) : MadC (w.alloc (.cells cs 55)) B hi w.heap.size n 0 p f :=
  ⟨⟨cs, heap_alloc_new _ _, h, fun i hi => absurd hi (by omega)⟩, fun i j hi => absurd hi (by omega)⟩
end Go.Proofs.Ytbebdhjhlheboaa
