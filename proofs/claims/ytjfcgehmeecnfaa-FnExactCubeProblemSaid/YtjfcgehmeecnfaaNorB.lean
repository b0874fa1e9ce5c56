/- Contracts of the model's net coefficients (no claim of its own). Conditions: as each theorem states. -/
import Derived.Test.YtjfcgehmeecnfaaNorA
import Derived.Laws.OwnMore
namespace Go.Proofs.Ytjfcgehmeecnfaa
open Go.ChangeShapes Go.WideShapes Go.ChangeAt Go.RowKit

/-- The net coefficient of a variable behind k terms, as Go computes it; the bound. -/
def net (c l : Nat → Int) : Nat → Nat → Int
  | 0, _ => 0
  | k + 1, v => if l k = (v : Int) then wrap64 (net c l k v + c k) else if l k = -(v : Int) then wrap64 (net c l k v - c k) else net c l k v
def nbd (c l : Nat → Int) (bd : Int) : Nat → Int
  | 0 => bd
  | k + 1 => if 0 < l k then nbd c l bd k else wrap64 (nbd c l bd k - c k)
theorem nbd_pos {c l : Nat → Int} {bd : Int} {k : Nat} (h : 0 < l k) : nbd c l bd (k + 1) = nbd c l bd k := if_pos h
theorem nbd_neg {c l : Nat → Int} {bd : Int} {k : Nat} (h : l k < 0) : nbd c l bd (k + 1) = wrap64 (nbd c l bd k - c k) := if_neg (by omega)

/-- A block of numbers. -/
def OwnK (w : World) (G N : Nat) (f : Nat → Int) : Prop :=
  ∃ cs : Array Value, w.heap[G]? = some (.cells cs 3 (0, 0)) ∧ cs.size = N ∧ ∀ i, i < N → cs[i]? = some (.int .i64 (f i))
section
variable {w w' : World} {G N : Nat} {f g : Nat → Int}
theorem OwnK.at_ (h : OwnK w G N f) (hg : w'.heap[G]? = w.heap[G]?) : OwnK w' G N f := by
  obtain ⟨cs, hh, h1, h2⟩ := h
  exact ⟨cs, hg.trans hh, h1, h2⟩
theorem OwnK.lt (h : OwnK w G N f) : G < w.heap.size := by
  obtain ⟨cs, hh, h1, h2⟩ := h
  rcases Nat.lt_or_ge G w.heap.size with hlt | hge
  · exact hlt
  · rw [Array.getElem?_eq_none hge] at hh; cases hh
theorem OwnK.below (h : OwnK w G N f) {B : Nat} (hb : Below B w w') (hG : G < B) : OwnK w' G N f := h.at_ (hb.block G hG)
theorem OwnK.alloc (h : OwnK w G N f) (o : Obj) : OwnK (w.alloc o) G N f := h.below (bl_alloc (Below.refl _ _) o) h.lt
theorem OwnK.cell (h : OwnK w G N f) {j : Nat} (hj : j < N) : w.cell? ⟨G, j, none⟩ = some (.int .i64 (f j)) := by
  obtain ⟨cs, hh, h1, h2⟩ := h
  exact (cell_of_row w G _ cs _ _ hh).trans (h2 j hj)
theorem OwnK.frozen (h : OwnK w G N f) (j : Nat) : w.frozen? ⟨G, j, none⟩ = false := by
  obtain ⟨cs, hh, h1, h2⟩ := h
  simp [World.frozen?, hh]
theorem OwnK.put (h : OwnK w G N f) {v : Nat} {x : Int} (hv : v < N) (hx : g v = x) (he : ∀ i, i < N → i ≠ v → g i = f i) : OwnK (w.setCell ⟨G, v, none⟩ (.int .i64 x)) G N g := by
  obtain ⟨cs, hh, h1, h2⟩ := h
  refine ⟨cs.setIfInBounds v (.int .i64 x), by simp [World.setCell, Array.getElem?_modify, hh], by simp [h1], fun i hi => ?_⟩
  simp only [Array.getElem?_setIfInBounds]
  by_cases e : v = i
  · subst e
    rw [if_pos rfl, if_pos (by omega), hx]
  · rw [if_neg e, he i hi (fun e' => e e'.symm)]
    exact h2 i hi
theorem OwnK.far (h : OwnK w G N f) {p : Addr} (hp : G ≠ p.block) (u : Value) : OwnK (w.setCell p u) G N f := h.at_ (Below.heap_setCell w p u G hp)
end

theorem Try.infoInt : (Try.prog.info? 3).map (fun i => (i.zero, i.size, i.bytes)) = some (some (.int .i64 0), 1, 8) := by kernel_rfl

theorem madeCells_get (z : Value) {i : Nat} (hi : i < 13) : (madeCells #[z] 13)[i]? = some z := by
  have h : (madeCells #[z] 13).toList = List.replicate 13 z := toList_madeCells_one z 13
  rw [← Array.getElem?_toList, h, List.getElem?_replicate, if_pos hi]
theorem net_pos {c l : Nat → Int} {k v : Nat} (h : l k = (v : Int)) : net c l (k + 1) v = wrap64 (net c l k v + c k) := by
  show (if _ then _ else _) = _
  rw [if_pos h]
theorem net_neg {c l : Nat → Int} {k v : Nat} (h : l k = -(v : Int)) (hv : 0 < v) : net c l (k + 1) v = wrap64 (net c l k v - c k) := by
  show (if _ then _ else _) = _
  rw [if_neg (by omega), if_pos h]
theorem net_off {c l : Nat → Int} {k v : Nat} (h : l k ≠ (v : Int)) (h2 : l k ≠ -(v : Int)) : net c l (k + 1) v = net c l k v := by
  show (if _ then _ else _) = _
  rw [if_neg h, if_neg h2]

end Go.Proofs.Ytjfcgehmeecnfaa
