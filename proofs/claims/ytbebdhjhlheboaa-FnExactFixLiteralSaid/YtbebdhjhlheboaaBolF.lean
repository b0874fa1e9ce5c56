/- Rows of Booleans that a call makes: marked, asked (no claim of its own). Conditions: as each theorem states. -/
import Derived.Test.YtbebdhjhlheboaaBoolA
import Derived.Test.YtbebdhjhlheboaaIntR
import Derived.Test.YtbebdhjhlheboaaMrkR
import Derived.Deep.AppendLies
namespace Go.Proofs.Ytbebdhjhlheboaa
open Go.ChangeShapes Go.WideShapes Go.ChangeAt Go.RowKit

/-- A block of elements of type T that holds at least n Booleans: the first k of them are known. -/
def OwnVb (w : World) (G : Nat) (T : TypeId) (n k : Nat) (v : Nat → Bool) : Prop :=
  ∃ cs : Array Value, w.heap[G]? = some (.cells cs T (0, 0)) ∧ n ≤ cs.size ∧ ∀ i, i < k → cs[i]? = some (.bool (v i))
section
variable {w w' : World} {G n k : Nat} {T : TypeId} {v v' : Nat → Bool}
theorem OwnB.toV (h : OwnB w G n k v) : OwnVb w G 4 n k v := by
  obtain ⟨cs, hh, h1, h2⟩ := h
  exact ⟨cs, hh, by omega, h2⟩
theorem OwnVb.zero (h : OwnVb w G T n k v) : OwnVb w G T n 0 v' := by
  obtain ⟨cs, hh, h1, _⟩ := h
  exact ⟨cs, hh, h1, fun i hi => absurd hi (by omega)⟩
theorem OwnVb.at_ (h : OwnVb w G T n k v) (hg : w'.heap[G]? = w.heap[G]?) : OwnVb w' G T n k v := by
  obtain ⟨cs, hh, h1, h2⟩ := h
  exact ⟨cs, hg.trans hh, h1, h2⟩
theorem OwnVb.lt (h : OwnVb w G T n k v) : G < w.heap.size := by
  obtain ⟨cs, hh, _, _⟩ := h
  rcases Nat.lt_or_ge G w.heap.size with hlt | hge
  · exact hlt
  · rw [Array.getElem?_eq_none hge] at hh; cases hh
theorem OwnVb.below (h : OwnVb w G T n k v) (hb : Below w.heap.size w w') : OwnVb w' G T n k v := h.at_ (hb.block G h.lt)
theorem OwnVb.rdAt (h : OwnVb w G T n n v) : RdB w w.heap.size (some ⟨G, 0, none⟩) n v := fun _ => by
  have hlt := h.lt
  obtain ⟨cs, hh, h1, h2⟩ := h
  refine ⟨G, 0, rfl, hlt, fun i hi => ?_⟩
  rw [Nat.zero_add]
  exact (cell_of_row w G _ cs _ _ hh).trans (h2 i hi)
theorem OwnVb.cell (h : OwnVb w G T n k v) {j : Nat} (hj : j < n) : ∃ u, w.cell? ⟨G, j, none⟩ = some u := by
  obtain ⟨cs, hh, h1, h2⟩ := h
  exact ⟨cs[j]'(by omega), (cell_of_row w G _ cs _ _ hh).trans (Array.getElem?_eq_getElem (by omega))⟩
theorem OwnVb.frozen (h : OwnVb w G T n k v) (j : Nat) : w.frozen? ⟨G, j, none⟩ = false := by
  obtain ⟨cs, hh, h1, h2⟩ := h
  simp [World.frozen?, hh]
theorem OwnVb.put (h : OwnVb w G T n k v) (hk : k < n) : OwnVb (w.setCell ⟨G, k, none⟩ (.bool (v k))) G T n (k + 1) v := by
  obtain ⟨cs, hh, h1, h2⟩ := h
  refine ⟨cs.setIfInBounds k (.bool (v k)), ?_, by simp [h1], fun i hi => ?_⟩
  · simp [World.setCell, Array.getElem?_modify, hh]
  · simp only [Array.getElem?_setIfInBounds]
    by_cases e : i = k
    · subst e
      rw [if_pos rfl, if_pos (by omega)]
    · rw [if_neg (by omega)]
      exact h2 i (by omega)
end

/-- A slice of Booleans that a call has made: nothing, or the head of a block of its own from B on. -/
def FrB (w : World) (B : Nat) (T : TypeId) (A : Option Addr) (n : Nat) (v : Nat → Bool) : Prop := n = 0 ∨ ∃ G, A = some ⟨G, 0, none⟩ ∧ B ≤ G ∧ OwnVb w G T n n v
section
variable {w w' : World} {B B' n n' : Nat} {T : TypeId} {A A' : Option Addr} {v : Nat → Bool}
theorem FrB.rdAt (h : FrB w B T A n v) : RdB w w.heap.size A n v := by
  rcases h with h | ⟨G, rfl, _, h⟩
  · exact fun hn => absurd hn (by omega)
  · exact h.rdAt
theorem FrB.below (h : FrB w B T A n v) (hb : Below w.heap.size w w') : FrB w' B T A n v := by
  rcases h with h | ⟨G, e, hG, h⟩
  · exact .inl h
  · exact .inr ⟨G, e, hG, h.below hb⟩
theorem FrB.more (h : FrB w B T A n v) (hB : B' ≤ B) : FrB w B' T A n v := by
  rcases h with h | ⟨G, e, hG, h⟩
  · exact .inl h
  · exact .inr ⟨G, e, by omega, h⟩
theorem Only.belowB (h : Only w w' A n) (hf : FrB w B T A n v) (hB : B ≤ w.heap.size) : Below B w w' :=
  ⟨h.os, h.tape, h.output, h.size, fun k hk => h.block k (by omega) (by
    rcases hf with h0 | ⟨G, rfl, hG, _⟩
    · exact .inl h0
    · right
      intro a ha
      cases ha
      show k ≠ G
      omega)⟩
end

/-- Such a slice in a block from lo on and below hi. -/
def FB2 (w : World) (lo hi : Nat) (T : TypeId) (A : Option Addr) (n : Nat) (v : Nat → Bool) : Prop := n = 0 ∨ ∃ G, A = some ⟨G, 0, none⟩ ∧ lo ≤ G ∧ G < hi ∧ OwnVb w G T n n v
section
variable {w w' : World} {lo hi : Nat} {T : TypeId} {A A' : Option Addr} {n n' : Nat} {v : Nat → Bool}
theorem FrB.two (h : FrB w lo T A n v) : FB2 w lo w.heap.size T A n v := by
  rcases h with h | ⟨G, e, hG, h⟩
  · exact .inl h
  · exact .inr ⟨G, e, hG, h.lt, h⟩
theorem FB2.one (h : FB2 w lo hi T A n v) : FrB w lo T A n v := by
  rcases h with h | ⟨G, e, hG, _, h⟩
  · exact .inl h
  · exact .inr ⟨G, e, hG, h⟩
theorem FB2.rdAt (h : FB2 w lo hi T A n v) : RdB w w.heap.size A n v := h.one.rdAt
theorem FB2.below (h : FB2 w lo hi T A n v) (hb : Below w.heap.size w w') : FB2 w' lo hi T A n v := by
  rcases h with h | ⟨G, e, hG, hG', h⟩
  · exact .inl h
  · exact .inr ⟨G, e, hG, hG', h.below hb⟩
theorem FB2.only (h : FB2 w lo hi T A n v) (ho : Only w w' A' n') (hd : n' = 0 ∨ ∀ a, A' = some a → a.block < lo ∨ hi ≤ a.block) : FB2 w' lo hi T A n v := by
  rcases h with h | ⟨G, e, hG, hG', h⟩
  · exact .inl h
  · refine .inr ⟨G, e, hG, hG', h.at_ (ho.block G h.lt ?_)⟩
    rcases hd with h0 | hd
    · exact .inl h0
    · exact .inr fun a ha hh => by have := hd a ha; omega
theorem FB2.apart (h : FB2 w lo hi T A n v) {lo' hi' : Nat} (hh : hi ≤ lo' ∨ hi' ≤ lo) : n = 0 ∨ ∀ a, A = some a → a.block < lo' ∨ hi' ≤ a.block := by
  rcases h with h | ⟨G, e, hG, hG', _⟩
  · exact .inl h
  · refine .inr fun a ha => ?_
    rw [e] at ha
    cases ha
    show G < lo' ∨ hi' ≤ G
    omega
theorem FB2.cell (h : FB2 w lo hi T A n v) (ho : Only w w' A n) {p : Addr} {u : Value} (hp : p.block < lo ∨ hi ≤ p.block) (hc : w.cell? p = some u) : w'.cell? p = some u := by
  refine (World.cell?_of_block (w := w) (ho.block p.block (World.block_lt_of_cell? w p hc) ?_)).trans hc
  rcases h with h | ⟨G, e, hG, hG', _⟩
  · exact .inl h
  · refine .inr fun a ha hh => ?_
    rw [e] at ha
    cases ha
    have : p.block = G := hh
    omega
theorem Only.belB (ho : Only w w' A n) (h : FB2 w lo hi T A n v) {W : World} (hb : Below W.heap.size W w) (hlo : W.heap.size ≤ lo) : Below W.heap.size W w' :=
  hb.trans ((ho.belowB (B := W.heap.size) (h.one.more hlo) hb.size))
end

/-- The Booleans that the marking lays. -/
def mkBl (k : Int) (i : Nat) : Bool := ((k + (i : Int)) % 3 == 0)
end Go.Proofs.Ytbebdhjhlheboaa
