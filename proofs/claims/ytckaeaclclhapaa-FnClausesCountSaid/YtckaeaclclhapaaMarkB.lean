/- Contracts of the marking and the asking helpers of the exact laws (no claim of its own). Conditions: as each theorem states. -/
import Derived.Test.YtckaeaclclhapaaComA
namespace Go.Proofs.Ytckaeaclclhapaa
open Go.ChangeShapes Go.WideShapes Go.ChangeAt Go.RowKit

/-- A block that holds at least n terms: the first k of them are known. -/
def OwnU (w : World) (G : Nat) (n k : Nat) (c l : Nat → Int) : Prop :=
  ∃ cs : Array Value, w.heap[G]? = some (.cells cs 56 (0, 0)) ∧ n * 2 ≤ cs.size ∧
    ∀ i, i < k → cs[i * 2]? = some (.int .i64 (c i)) ∧ cs[i * 2 + 1]? = some (.int .i64 (l i))

theorem OwnT.u {w : World} {G n k : Nat} {c l : Nat → Int} (h : OwnT w G n k c l) : OwnU w G n k c l := by
  obtain ⟨cs, hh, h1, h2⟩ := h
  exact ⟨cs, hh, by omega, h2⟩
theorem OwnU.zero {w : World} {G n k : Nat} {c l c' l' : Nat → Int} (h : OwnU w G n k c l) : OwnU w G n 0 c' l' := by
  obtain ⟨cs, hh, h1, _⟩ := h
  exact ⟨cs, hh, h1, fun i hi => absurd hi (by omega)⟩
theorem OwnU.at_ {w w' : World} {G n k : Nat} {c l : Nat → Int} (h : OwnU w G n k c l) (hg : w'.heap[G]? = w.heap[G]?) : OwnU w' G n k c l := by
  obtain ⟨cs, hh, h1, h2⟩ := h
  exact ⟨cs, hg.trans hh, h1, h2⟩
theorem OwnU.lt {w : World} {G n k : Nat} {c l : Nat → Int} (h : OwnU w G n k c l) : G < w.heap.size := by
  obtain ⟨cs, hh, _, _⟩ := h
  rcases Nat.lt_or_ge G w.heap.size with hlt | hge
  · exact hlt
  · rw [Array.getElem?_eq_none hge] at hh; cases hh
theorem OwnU.below {w w' : World} {G n k : Nat} {c l : Nat → Int} (h : OwnU w G n k c l) (hb : Below w.heap.size w w') : OwnU w' G n k c l := h.at_ (hb.block G h.lt)
theorem OwnU.rdAt {w : World} {G n : Nat} {c l : Nat → Int} (h : OwnU w G n n c l) : Rd w w.heap.size (some ⟨G, 0, none⟩) n c l := fun _ => by
  have hlt := h.lt
  obtain ⟨cs, hh, h1, h2⟩ := h
  refine ⟨G, 0, rfl, hlt, fun i hi => ?_⟩
  obtain ⟨a, b⟩ := h2 i hi
  rw [Nat.zero_add]
  exact ⟨(cell_of_row w G _ cs _ _ hh).trans a, (cell_of_row w G _ cs _ _ hh).trans b⟩
theorem OwnU.cell {w : World} {G n k : Nat} {c l : Nat → Int} (h : OwnU w G n k c l) {j : Nat} (hj : j < n * 2) : ∃ u, w.cell? ⟨G, j, none⟩ = some u := by
  obtain ⟨cs, hh, h1, h2⟩ := h
  exact ⟨cs[j]'(by omega), (cell_of_row w G _ cs _ _ hh).trans (Array.getElem?_eq_getElem (by omega))⟩
theorem OwnU.frozen {w : World} {G n k : Nat} {c l : Nat → Int} (h : OwnU w G n k c l) (j : Nat) : w.frozen? ⟨G, j, none⟩ = false := by
  obtain ⟨cs, hh, h1, h2⟩ := h
  simp [World.frozen?, hh]
theorem OwnU.put {w : World} {G n k : Nat} {c l : Nat → Int} (h : OwnU w G n k c l) (hk : k < n) :
    OwnU ((w.setCell ⟨G, k * 2, none⟩ (.int .i64 (c k))).setCell ⟨G, k * 2 + 1, none⟩ (.int .i64 (l k))) G n (k + 1) c l := by
  obtain ⟨cs, hh, h1, h2⟩ := h
  refine ⟨(cs.setIfInBounds (k * 2) (.int .i64 (c k))).setIfInBounds (k * 2 + 1) (.int .i64 (l k)), ?_, by simp [h1], fun i hi => ?_⟩
  · simp [World.setCell, Array.getElem?_modify, hh]
  · simp only [Array.getElem?_setIfInBounds]
    by_cases e : i = k
    · subst e
      constructor
      · rw [if_neg (by omega), if_pos rfl, if_pos (by omega)]
      · rw [if_pos rfl, if_pos (by simp; omega)]
    · obtain ⟨a, b⟩ := h2 i (by omega)
      constructor
      · rw [if_neg (by omega), if_neg (by omega)]; exact a
      · rw [if_neg (by omega), if_neg (by omega)]; exact b

/-- A slice that a call has made: nothing, or the head of a block of its own from B on. -/
def Frs (w : World) (B : Nat) (A : Option Addr) (n : Nat) (c l : Nat → Int) : Prop := n = 0 ∨ ∃ G, A = some ⟨G, 0, none⟩ ∧ B ≤ G ∧ OwnU w G n n c l
theorem Frs.rdAt {w : World} {B : Nat} {A : Option Addr} {n : Nat} {c l : Nat → Int} (h : Frs w B A n c l) : Rd w w.heap.size A n c l := by
  rcases h with h | ⟨G, rfl, _, h⟩
  · exact fun hn => absurd hn (by omega)
  · exact h.rdAt
theorem Frs.below {w w' : World} {B : Nat} {A : Option Addr} {n : Nat} {c l : Nat → Int} (h : Frs w B A n c l) (hb : Below w.heap.size w w') : Frs w' B A n c l := by
  rcases h with h | ⟨G, e, hG, h⟩
  · exact .inl h
  · exact .inr ⟨G, e, hG, h.below hb⟩
theorem Frs.more {w : World} {B B' : Nat} {A : Option Addr} {n : Nat} {c l : Nat → Int} (h : Frs w B A n c l) (hB : B' ≤ B) : Frs w B' A n c l := by
  rcases h with h | ⟨G, e, hG, h⟩
  · exact .inl h
  · exact .inr ⟨G, e, by omega, h⟩

/-- Only what A leads to may have turned, of what lay; the streams are as they were. -/
structure Only (w w' : World) (A : Option Addr) (n : Nat) : Prop where
  os : w'.os = w.os
  tape : w'.tape = w.tape
  output : w'.output = w.output
  size : w.heap.size ≤ w'.heap.size
  block : ∀ k, k < w.heap.size → (n = 0 ∨ ∀ a, A = some a → k ≠ a.block) → w'.heap[k]? = w.heap[k]?

theorem Only.refl (w : World) (A : Option Addr) (n : Nat) : Only w w A n := ⟨rfl, rfl, rfl, Nat.le_refl _, fun _ _ _ => rfl⟩
theorem Only.below {w w' : World} {B : Nat} {A : Option Addr} {n : Nat} {c l : Nat → Int} (h : Only w w' A n) (hf : Frs w B A n c l) (hB : B ≤ w.heap.size) : Below B w w' :=
  ⟨h.os, h.tape, h.output, h.size, fun k hk => h.block k (by omega) (by
    rcases hf with h0 | ⟨G, rfl, hG, _⟩
    · exact .inl h0
    · right
      intro a ha
      cases ha
      show k ≠ G
      omega)⟩
theorem Only.pre {w w1 w' : World} {A : Option Addr} {n : Nat} (hb : Below w.heap.size w w1) (h : Only w1 w' A n) : Only w w' A n :=
  ⟨h.os.trans hb.os, h.tape.trans hb.tape, h.output.trans hb.output, Nat.le_trans hb.size h.size, fun k hk hn => (h.block k (Nat.lt_of_lt_of_le hk hb.size) hn).trans (hb.block k hk)⟩

theorem Only.set_ {w wr : World} {G n : Nat} (h : Only w wr (some ⟨G, 0, none⟩) n) (hn : 0 < n) (o : Nat) (u : Value) : Only w (wr.setCell ⟨G, o, none⟩ u) (some ⟨G, 0, none⟩) n :=
  ⟨h.os, h.tape, h.output, by simpa [World.setCell] using h.size, fun k hk hne => by
    rcases hne with h0 | hne
    · omega
    · have hkG : k ≠ G := hne _ rfl
      exact (Below.heap_setCell wr ⟨G, o, none⟩ u k hkG).trans (h.block k hk (.inr hne))⟩
theorem add2 (k : Int) (j : Nat) : Value.int .i64 (k + 2 * (j : Int) + 1 + 1) = .int .i64 (k + 2 * ((j + 1 : Nat) : Int)) := by
  congr 1
  omega

/-- The numbers that the marking lays. -/
def mkC (k : Int) (i : Nat) : Int := k + 2 * i
def mkL (k : Int) (i : Nat) : Int := k + 2 * i + 1

theorem only_trans {w w1 w' : World} {A : Option Addr} {n : Nat} (h : Only w w1 A n) (hb : Below w1.heap.size w1 w') : Only w w' A n :=
  ⟨hb.os.trans h.os, hb.tape.trans h.tape, hb.output.trans h.output, Nat.le_trans h.size hb.size, fun k hk hn => (hb.block k (Nat.lt_of_lt_of_le hk h.size)).trans (h.block k hk hn)⟩

end Go.Proofs.Ytckaeaclclhapaa
