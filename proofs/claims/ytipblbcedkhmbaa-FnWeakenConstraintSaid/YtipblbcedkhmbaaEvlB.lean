/- A copy of twelve Booleans, one changed (no claim of its own). Conditions: as each theorem states. -/
import Derived.Test.YtipblbcedkhmbaaEvaC
import Derived.Test.YtipblbcedkhmbaaDrwJ
namespace Go.Proofs.Ytipblbcedkhmbaa
open Go.ChangeShapes Go.WideShapes Go.ChangeAt Go.RowKit Go.Shelf

/-- Twelve Booleans, as a list of cells. -/
def clB12 (v : Nat → Bool) : List Value := [.bool (v 0), .bool (v 1), .bool (v 2), .bool (v 3), .bool (v 4), .bool (v 5), .bool (v 6), .bool (v 7), .bool (v 8), .bool (v 9), .bool (v 10), .bool (v 11)]
theorem clB12_get (v : Nat → Bool) : ∀ i, i < 12 → (clB12 v)[i]? = some (.bool (v i))
  | 0, _ => rfl
  | 1, _ => rfl
  | 2, _ => rfl
  | 3, _ => rfl
  | 4, _ => rfl
  | 5, _ => rfl
  | 6, _ => rfl
  | 7, _ => rfl
  | 8, _ => rfl
  | 9, _ => rfl
  | 10, _ => rfl
  | 11, _ => rfl
theorem clB12_at (v : Nat → Bool) (j : Nat) (x : Value) (h : (clB12 v)[j]? = some x) : j < 12 ∧ x = .bool (v j) := by
  have hj : j < 12 := (List.getElem?_eq_some_iff.1 h).1
  refine ⟨hj, ?_⟩
  rw [clB12_get v j hj] at h
  exact (Option.some.inj h).symm

theorem OwnB.upd {w : World} {G n : Nat} {v : Nat → Bool} (h : OwnB w G n n v) {j : Nat} (hj : j < n) (z : Bool) : OwnB (w.setCell ⟨G, j, none⟩ (.bool z)) G n n (fun i => if i = j then z else v i) := by
  obtain ⟨cs, hh, h1, h2⟩ := h
  refine ⟨cs.setIfInBounds j (.bool z), by simp [World.setCell, Array.getElem?_modify, hh], by simp [h1], fun i hi => ?_⟩
  rw [Array.getElem?_setIfInBounds]
  by_cases e : i = j
  · subst e
    rw [if_pos rfl, if_pos (by omega)]
    show some (Value.bool z) = some (.bool (if i = i then z else v i))
    rw [if_pos rfl]
  · rw [if_neg (fun e' => e e'.symm)]
    show cs[i]? = some (.bool (if i = j then z else v i))
    rw [if_neg e]
    exact h2 i hi

/-- Twelve Booleans that came in, appended to a row of the call's own that is empty. -/
theorem run_appB12 (W : World) {B0 : Nat} {v : Value} {cap b off : Nat} {vv : Nat → Bool} (hown : W.ownsRow B0 4 1 v 0 []) (hlt : ∀ j, v.ownBlock = some j → B0 ≤ j) (hc : ∀ i, i < 12 → W.cell? ⟨b, off + i, none⟩ = some (.bool (vv i))) (hB : B0 ≤ W.heap.size) :
    ∃ g cap' w', (Builtin.append_ #[28, 28] 28 #[v, .slice (some ⟨b, off, none⟩) 12 cap]).run Try.prog W = .ok (.slice (some ⟨g, 0, none⟩) 12 cap') w' ∧ B0 ≤ g ∧ (∃ cs : Array Value, w'.heap[g]? = some (.cells cs 4 (0, 0)) ∧ 12 ≤ cs.size ∧ ∀ i, i < 12 → cs[i]? = some (.bool (vv i))) ∧ Below B0 W w' := by
  obtain ⟨i0, hi, hz0, hz1, hz2⟩ := info_parts Try.infoBool
  obtain ⟨v', w', k1, k2, k3, _, _⟩ := run_append_own_at (P := Try.prog) W B0 28 28 4 i0 _ 1 1 Try.underlying28 hi hz0 hz1 hz2 rfl (by omega) v 0 _ hown ⟨b, off, none⟩ 12 cap (clB12 vv) rfl (fun j u hu => by
      obtain ⟨hj, rfl⟩ := clB12_at vv j u hu
      rw [Go.WideShapes.add_plain]
      exact hc j hj) (fun u hu => by
      obtain ⟨j, hj, e⟩ := List.mem_iff_getElem.1 hu
      have := clB12_at vv j u (by rw [List.getElem?_eq_getElem hj, e])
      rw [this.2]
      rfl) (by unfold maxLen; omega) (by omega) hB
  rcases k2.2 with ⟨_, h⟩ | ⟨g, cap', cur, e1, hg, hh, hnc, _, hsz, htk⟩
  · omega
  · simp only [Nat.zero_add] at e1
    refine ⟨g, cap', w', by rw [k1, e1], hg, ⟨cur, hh, by omega, fun i hi => ?_⟩, (Below.refl B0 W).grown k3 hB hlt⟩
    have h3 : ([] ++ clB12 vv)[i]? = some (.bool (vv i)) := by
      rw [List.nil_append, clB12_get vv i hi]
    rw [← htk, List.getElem?_take_of_lt (by omega)] at h3
    simpa using h3

/-- A block of the call's own, of at least twelve cells, whose first twelve are known. -/
def OwC (w : World) (G : Nat) (v : Nat → Bool) : Prop := ∃ cs : Array Value, w.heap[G]? = some (.cells cs 4 (0, 0)) ∧ 12 ≤ cs.size ∧ ∀ i, i < 12 → cs[i]? = some (.bool (v i))
theorem OwC.lt {w : World} {G : Nat} {v : Nat → Bool} (h : OwC w G v) : G < w.heap.size := by
  obtain ⟨cs, hh, h1, h2⟩ := h
  rcases Nat.lt_or_ge G w.heap.size with hlt | hge
  · exact hlt
  · rw [Array.getElem?_eq_none hge] at hh; cases hh
theorem OwC.rdAt {w : World} {G : Nat} {v : Nat → Bool} (h : OwC w G v) : RdB w w.heap.size (some ⟨G, 0, none⟩) 12 v := fun _ => by
  have hlt := h.lt
  obtain ⟨cs, hh, h1, h2⟩ := h
  refine ⟨G, 0, rfl, hlt, fun i hi => ?_⟩
  rw [Nat.zero_add]
  exact (cell_of_row w G _ cs _ _ hh).trans (h2 i hi)
theorem OwC.cell {w : World} {G : Nat} {v : Nat → Bool} (h : OwC w G v) {j : Nat} (hj : j < 12) : w.cell? ⟨G, j, none⟩ = some (.bool (v j)) := by
  obtain ⟨cs, hh, h1, h2⟩ := h
  exact (cell_of_row w G _ cs _ _ hh).trans (h2 j hj)
theorem OwC.frozen {w : World} {G : Nat} {v : Nat → Bool} (h : OwC w G v) (j : Nat) : w.frozen? ⟨G, j, none⟩ = false := by
  obtain ⟨cs, hh, h1, h2⟩ := h
  simp [World.frozen?, hh]
theorem OwC.upd {w : World} {G : Nat} {v : Nat → Bool} (h : OwC w G v) {j : Nat} (hj : j < 12) (z : Bool) : OwC (w.setCell ⟨G, j, none⟩ (.bool z)) G (fun i => if i = j then z else v i) := by
  obtain ⟨cs, hh, h1, h2⟩ := h
  refine ⟨cs.setIfInBounds j (.bool z), by simp [World.setCell, Array.getElem?_modify, hh], by simpa using h1, fun i hi => ?_⟩
  rw [Array.getElem?_setIfInBounds]
  by_cases e : i = j
  · subst e
    rw [if_pos rfl, if_pos (by omega)]
    show some (Value.bool z) = some (.bool (if i = i then z else v i))
    rw [if_pos rfl]
  · rw [if_neg (fun e' => e e'.symm)]
    show cs[i]? = some (.bool (if i = j then z else v i))
    rw [if_neg e]
    exact h2 i hi
theorem wp_appB12 {o : Oper} {a : Act} {K : Act → World → Prop} {Q : Exit → Act → World → Prop} {W : World} (s x : Operand)
    (ho : o.op = .call { callee := .builtin .append, args := #[s, x], argTypes := #[28, 28] }) (hty : o.type = 28)
    {B0 : Nat} {v : Value} {cap b off : Nat} {vv : Nat → Bool} (hs : a.eval s = v) (hx : a.eval x = .slice (some ⟨b, off, none⟩) 12 cap)
    (hown : W.ownsRow B0 4 1 v 0 []) (hlt : ∀ j, v.ownBlock = some j → B0 ≤ j) (hc : ∀ i, i < 12 → W.cell? ⟨b, off + i, none⟩ = some (.bool (vv i))) (hB : B0 ≤ W.heap.size)
    (h : ∀ g cap' w', B0 ≤ g → OwC w' g vv → Below B0 W w' → K (a.put o.dst (.slice (some ⟨g, 0, none⟩) 12 cap')) w') :
    o.wp Try.prog a W K Q := by
  obtain ⟨g, cap', w', hrun, h1, h2, h3⟩ := run_appB12 W hown hlt hc hB (cap := cap)
  unfold Oper.wp execOp
  simp only [ho, hty, resolve, invoke, builtin, Sem.run_bind, Sem.run_pure, Result.andThen_ok, List.map_toArray, List.map_cons, List.map_nil, hs, hx, hrun]
  exact h g cap' w' h1 h2 h3

theorem rowB_lit (W : World) : (W.alloc (.cells #[] 4)).ownsRow W.heap.size 4 1 (.slice (some ⟨W.heap.size, 0, none⟩) 0 0) 0 [] := by
  obtain ⟨xs, h0, h1, _⟩ := bs_lit W
  have e : xs = [] := List.length_eq_zero_iff.1 h1
  subst e
  exact h0
end Go.Proofs.Ytipblbcedkhmbaa
