/- The marking of a model that a call has made (no claim of its own). Conditions: as each theorem states. -/
import Derived.Test.YthjcbaccoogloaaMrkR
import Derived.Test.YthjcbaccoogloaaMdlE
namespace Go.Proofs.Ythjcbaccoogloaa
open Go.ChangeShapes Go.WideShapes Go.ChangeAt Go.RowKit

/-- Blocks of cells of other types than int lie as they did. -/
def IntOnly (w w' : World) : Prop := ∀ (k : Nat) (cs : Array Value) (T : TypeId) (fr : Nat × Nat), w.heap[k]? = some (.cells cs T fr) → T ≠ 3 → w'.heap[k]? = w.heap[k]?
section
variable {w w' w1 : World} {lo hi G n : Nat} {T : TypeId}
theorem IntOnly.refl (w : World) : IntOnly w w := fun _ _ _ _ _ _ => rfl
theorem IntOnly.trans (h : IntOnly w w1) (k : IntOnly w1 w') : IntOnly w w' := fun j cs T fr hj hT => by
  have h1 := h j cs T fr hj hT
  exact (k j cs T fr (h1.trans hj) hT).trans h1
theorem IntOnly.set_ (h : IntOnly w w1) {m : Nat} (hr : Room w G 3 m) (o : Nat) (u : Value) : IntOnly w (w1.setCell ⟨G, o, none⟩ u) := fun j cs T fr hj hT => by
  refine (Below.heap_setCell w1 ⟨G, o, none⟩ u j (fun e => ?_)).trans (h j cs T fr hj hT)
  obtain ⟨ds, hd, _⟩ := hr
  have e' : j = G := e
  subst e'
  rw [hd] at hj
  injection hj with hj
  injection hj with _ h2 _
  exact hT h2.symm

end

/-- The heads of a row of lists that lies in block G: each leads to room for its numbers, in a block of the range. -/
def HdL (w : World) (lo hi G n : Nat) (r : Nat → Lst) : Prop :=
  ∃ cs : Array Value, w.heap[G]? = some (.cells cs 23 (0, 0)) ∧ n ≤ cs.size ∧ ∀ i, i < n → ∃ g ci, cs[i]? = some (.slice (some ⟨g, 0, none⟩) (r i).n ci) ∧ lo ≤ g ∧ g < hi ∧ Room w g 3 (r i).n
theorem HdL.keep {w w' : World} {lo hi G n : Nat} {r : Nat → Lst} (h : HdL w lo hi G n r) (hg : w'.heap[G]? = w.heap[G]?) (hs : Shp w w') : HdL w' lo hi G n r := by
  obtain ⟨cs, h1, h2, h3⟩ := h
  refine ⟨cs, hg.trans h1, h2, fun i hi => ?_⟩
  obtain ⟨g, ci, a, b, c, d⟩ := h3 i hi
  exact ⟨g, ci, a, b, c, d.shp hs⟩
theorem HdL.ints {w w' : World} {lo hi G n : Nat} {r : Nat → Lst} (h : HdL w lo hi G n r) (hi' : IntOnly w w') (hs : Shp w w') : HdL w' lo hi G n r := by
  obtain ⟨cs, h1, _⟩ := id h
  exact h.keep (hi' G cs _ _ h1 (by decide)) hs

/-- The heads of a row of rules that lies in block G. -/
def HdR (w : World) (lo hi G n : Nat) (q : Nat → Rul) : Prop :=
  ∃ cs : Array Value, w.heap[G]? = some (.cells cs 36 (0, 0)) ∧ n * 5 ≤ cs.size ∧
    ∀ i, i < n → ∃ gv cv gc cc gr cr, cs[i * 5 + 1]? = some (.slice (some ⟨gv, 0, none⟩) (q i).v.n cv) ∧ cs[i * 5 + 2]? = some (.slice (some ⟨gc, 0, none⟩) (q i).c.n cc) ∧ cs[i * 5 + 4]? = some (.slice (some ⟨gr, 0, none⟩) (q i).n cr) ∧
      (lo ≤ gv ∧ gv < hi ∧ Room w gv 3 (q i).v.n) ∧ (lo ≤ gc ∧ gc < hi ∧ Room w gc 3 (q i).c.n) ∧ HdL w lo hi gr (q i).n (q i).r
section
variable {w w' : World} {lo hi G n : Nat} {q : Nat → Rul}
theorem HdR.room (h : HdR w lo hi G n q) : Room w G 36 (n * 5) := by
  obtain ⟨cs, h1, h2, _⟩ := h
  exact ⟨cs, h1, h2⟩
theorem HdR.ints (h : HdR w lo hi G n q) (hi' : IntOnly w w') (hs : Shp w w') : HdR w' lo hi G n q := by
  obtain ⟨cs, h1, h2, h3⟩ := h
  refine ⟨cs, (hi' G cs _ _ h1 (by decide)).trans h1, h2, fun i hi => ?_⟩
  obtain ⟨gv, cv, gc, cc, gr, cr, a, b, c, d, e, f⟩ := h3 i hi
  exact ⟨gv, cv, gc, cc, gr, cr, a, b, c, ⟨d.1, d.2.1, d.2.2.shp hs⟩, ⟨e.1, e.2.1, e.2.2.shp hs⟩, f.ints hi' hs⟩
theorem HdR.set_ (h : HdR w lo hi G n q) (j o : Nat) (ho : o = 0 ∨ o = 3) (u : Value) : HdR (w.setCell ⟨G, j * 5 + o, none⟩ u) lo hi G n q := by
  obtain ⟨cs, h1, h2, h3⟩ := h
  refine ⟨cs.setIfInBounds (j * 5 + o) u, by simp [World.setCell, Array.getElem?_modify, h1], by simp [h2], fun i hi => ?_⟩
  obtain ⟨gv, cv, gc, cc, gr, cr, a, b, c, d, e, f⟩ := h3 i hi
  have hs : Shp w (w.setCell ⟨G, j * 5 + o, none⟩ u) := (Shp.refl _).set_ _ _ _
  refine ⟨gv, cv, gc, cc, gr, cr, by rw [Array.getElem?_setIfInBounds, if_neg (by omega)]; exact a, by rw [Array.getElem?_setIfInBounds, if_neg (by omega)]; exact b, by rw [Array.getElem?_setIfInBounds, if_neg (by omega)]; exact c, ⟨d.1, d.2.1, d.2.2.shp hs⟩, ⟨e.1, e.2.1, e.2.2.shp hs⟩, f.keep (Below.heap_setCell w ⟨G, j * 5 + o, none⟩ u gr (fun e => ?_)) hs⟩
  have e' : gr = G := e
  subst e'
  obtain ⟨ds, hd, _⟩ := f
  rw [hd] at h1
  injection h1 with h1
  injection h1 with _ h4 _
  exact absurd h4 (by decide)
end
theorem OwnI.room {w : World} {G n : Nat} {v : Nat → Int} (h : OwnI w G n n v) : Room w G 3 n := by
  obtain ⟨cs, h1, h2, _⟩ := h
  exact ⟨cs, h1, by omega⟩
theorem OwnL.hd {w : World} {lo G n : Nat} {r : Nat → Lst} (h : OwnL w G n n r) (hlo : lo ≤ G) : HdL w lo w.heap.size G n r := by
  obtain ⟨cs, h1, h2, h3⟩ := h
  refine ⟨cs, h1, by omega, fun i hi => ?_⟩
  obtain ⟨g, hg, a, b⟩ := h3 i hi
  exact ⟨g, _, a, by omega, b.lt, b.room⟩
theorem OwnRs.hd {w : World} {lo G n : Nat} {q : Nat → Rul} (h : OwnRs w G n n q) (hlo : lo ≤ G) : HdR w lo w.heap.size G n q := by
  obtain ⟨cs, h1, h2, h3⟩ := h
  refine ⟨cs, h1, by omega, fun i hi => ?_⟩
  obtain ⟨gv, gc, gr, a1, a2, a3, b0, b1, b2, b3, b4, c1, c2, c3⟩ := h3 i hi
  exact ⟨gv, _, gc, _, gr, _, b1, b2, b4, ⟨by omega, c1.lt, c1.room⟩, ⟨by omega, c2.lt, c2.room⟩, c3.hd (by omega)⟩

/-- How far the marks of the first k rules go. -/
def mkR (q : Nat → Rul) : Nat → Nat
  | 0 => 0
  | k + 1 => mkR q k + (2 + (q k).v.n + (q k).c.n + totL (q k).r (q k).n)
theorem mkR_le (q : Nat → Rul) (k : Nat) : mkR q k ≤ 2 * k + totR q k := by
  induction k with
  | zero => exact Nat.le_refl _
  | succ k ih =>
    show mkR q k + (2 + (q k).v.n + (q k).c.n + totL (q k).r (q k).n) ≤ 2 * (k + 1) + (totR q k + (q k).sz)
    unfold Rul.sz
    omega

end Go.Proofs.Ythjcbaccoogloaa
