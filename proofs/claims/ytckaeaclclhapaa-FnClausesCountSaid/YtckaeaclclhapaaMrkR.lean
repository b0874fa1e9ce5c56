/- What a marking may turn, by ranges of blocks (no claim of its own). Conditions: as each theorem states. -/
import Derived.Test.YtckaeaclclhapaaMarkB
import Derived.Test.YtckaeaclclhapaaIntR
namespace Go.Proofs.Ytckaeaclclhapaa
open Go.ChangeShapes Go.WideShapes Go.ChangeAt Go.RowKit

/-- Of the blocks that lay, only those from lo on and below hi may have turned. -/
structure OnlyR (lo hi : Nat) (w w' : World) : Prop where
  os : w'.os = w.os
  tape : w'.tape = w.tape
  output : w'.output = w.output
  size : w.heap.size ≤ w'.heap.size
  block : ∀ k, k < w.heap.size → (k < lo ∨ hi ≤ k) → w'.heap[k]? = w.heap[k]?
/-- Every block of cells is one still, of the same type and length. -/
def Shp (w w' : World) : Prop := ∀ (k : Nat) (cs : Array Value) (T : TypeId) (fr : Nat × Nat), w.heap[k]? = some (.cells cs T fr) → ∃ cs' : Array Value, w'.heap[k]? = some (.cells cs' T fr) ∧ cs'.size = cs.size
section
variable {w w' w1 : World} {lo hi G n : Nat} {A : Option Addr} {T : TypeId} {v : Nat → Int}
theorem OnlyR.refl (lo hi : Nat) (w : World) : OnlyR lo hi w w := ⟨rfl, rfl, rfl, Nat.le_refl _, fun _ _ _ => rfl⟩
theorem OnlyR.trans (h : OnlyR lo hi w w1) (k : OnlyR lo hi w1 w') : OnlyR lo hi w w' :=
  ⟨k.os.trans h.os, k.tape.trans h.tape, k.output.trans h.output, Nat.le_trans h.size k.size, fun j hj hr => (k.block j (Nat.lt_of_lt_of_le hj h.size) hr).trans (h.block j hj hr)⟩
theorem Only.range (h : Only w w' (some ⟨G, 0, none⟩) n) (h1 : lo ≤ G) (h2 : G < hi) : OnlyR lo hi w w' :=
  ⟨h.os, h.tape, h.output, h.size, fun k hk hr => h.block k hk (.inr fun a ha => by
    cases ha
    show k ≠ G
    omega)⟩
theorem bl_range (h : Below w.heap.size w w') : OnlyR lo hi w w' := ⟨h.os, h.tape, h.output, h.size, fun k hk _ => h.block k hk⟩
theorem OnlyR.set_ (h : OnlyR lo hi w w1) (h1 : lo ≤ G) (h2 : G < hi) (o : Nat) (u : Value) : OnlyR lo hi w (w1.setCell ⟨G, o, none⟩ u) :=
  ⟨h.os, h.tape, h.output, by simpa [World.setCell] using h.size, fun k hk hr => (Below.heap_setCell w1 ⟨G, o, none⟩ u k (show k ≠ G by omega)).trans (h.block k hk hr)⟩
theorem OnlyR.below (h : OnlyR lo hi w w') {W : World} (hb : Below W.heap.size W w) (hlo : W.heap.size ≤ lo) : Below W.heap.size W w' :=
  ⟨h.os.trans hb.os, h.tape.trans hb.tape, h.output.trans hb.output, Nat.le_trans hb.size h.size, fun k hk => (h.block k (Nat.lt_of_lt_of_le hk hb.size) (.inl (by omega))).trans (hb.block k hk)⟩
theorem OnlyR.cell (h : OnlyR lo hi w w') {p : Addr} {u : Value} (hp : p.block < lo ∨ hi ≤ p.block) (hc : w.cell? p = some u) : w'.cell? p = some u :=
  (World.cell?_of_block (w := w) (h.block p.block (World.block_lt_of_cell? w p hc) hp)).trans hc
theorem FI2.onlyR {lo' hi' : Nat} (h : FI2 w lo hi T A n v) (ho : OnlyR lo' hi' w w') (hd : hi ≤ lo' ∨ hi' ≤ lo) : FI2 w' lo hi T A n v := by
  rcases h with h | ⟨G, e, hG, hG', h⟩
  · exact .inl h
  · exact .inr ⟨G, e, hG, hG', h.at_ (ho.block G h.lt (by omega))⟩
theorem Shp.refl (w : World) : Shp w w := fun _ cs _ _ h => ⟨cs, h, rfl⟩
theorem Shp.trans (h : Shp w w1) (k : Shp w1 w') : Shp w w' := fun j cs T fr hj => by
  obtain ⟨cs1, h1, h2⟩ := h j cs T fr hj
  obtain ⟨cs2, h3, h4⟩ := k j cs1 T fr h1
  exact ⟨cs2, h3, h4.trans h2⟩
theorem Shp.set_ (h : Shp w w1) (G o : Nat) (u : Value) : Shp w (w1.setCell ⟨G, o, none⟩ u) := fun j cs T fr hj => by
  obtain ⟨cs1, h1, h2⟩ := h j cs T fr hj
  by_cases e : j = G
  · subst e
    exact ⟨cs1.setIfInBounds o u, by simp [World.setCell, Array.getElem?_modify, h1], by simp [h2]⟩
  · exact ⟨cs1, (Below.heap_setCell w1 ⟨G, o, none⟩ u j e).trans h1, h2⟩
theorem bl_shp (h : Below w.heap.size w w') : Shp w w' := fun j cs T fr hj => by
  refine ⟨cs, (h.block j ?_).trans hj, rfl⟩
  rcases Nat.lt_or_ge j w.heap.size with hlt | hge
  · exact hlt
  · rw [Array.getElem?_eq_none hge] at hj; cases hj
end
/-- A block of at least n cells of type T. -/
def Room (w : World) (G : Nat) (T : TypeId) (n : Nat) : Prop := ∃ cs : Array Value, w.heap[G]? = some (.cells cs T (0, 0)) ∧ n ≤ cs.size
section
variable {w w' : World} {G n : Nat} {T : TypeId}
theorem Room.shp (h : Room w G T n) (hs : Shp w w') : Room w' G T n := by
  obtain ⟨cs, h1, h2⟩ := h
  obtain ⟨cs', h3, h4⟩ := hs _ _ _ _ h1
  exact ⟨cs', h3, by omega⟩
theorem Room.cell (h : Room w G T n) {j : Nat} (hj : j < n) : ∃ u, w.cell? ⟨G, j, none⟩ = some u := by
  obtain ⟨cs, hh, h1⟩ := h
  exact ⟨cs[j]'(by omega), (cell_of_row w G _ cs _ _ hh).trans (Array.getElem?_eq_getElem (by omega))⟩
theorem Room.frozen (h : Room w G T n) (j : Nat) : w.frozen? ⟨G, j, none⟩ = false := by
  obtain ⟨cs, hh, h1⟩ := h
  simp [World.frozen?, hh]
theorem Room.lt (h : Room w G T n) : G < w.heap.size := by
  obtain ⟨cs, hh, _⟩ := h
  rcases Nat.lt_or_ge G w.heap.size with hlt | hge
  · exact hlt
  · rw [Array.getElem?_eq_none hge] at hh; cases hh
end

end Go.Proofs.Ytckaeaclclhapaa
