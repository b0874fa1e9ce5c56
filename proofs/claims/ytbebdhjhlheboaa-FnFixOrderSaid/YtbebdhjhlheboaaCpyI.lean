/- A copy of twelve ints, one changed (no claim of its own). Conditions: as each theorem states. -/
import Derived.Test.YtbebdhjhlheboaaSlkB
import Derived.Test.YtbebdhjhlheboaaIntR
import Derived.Laws.OwnMore
import Derived.Maps.AppendAt
namespace Go.Proofs.Ytbebdhjhlheboaa
open Go.ChangeShapes Go.WideShapes Go.ChangeAt Go.RowKit Go.Shelf

/-- Twelve ints that came in, appended to a row of the call's own that is empty. -/
theorem run_cp12 (W : World) {B0 : Nat} {v : Value} {cap b off : Nat} {vv : Nat → Int} (hown : W.ownsRow B0 3 1 v 0 []) (hlt : ∀ j, v.ownBlock = some j → B0 ≤ j) (hc : ∀ i, i < 12 → W.cell? ⟨b, off + i, none⟩ = some (.int .i64 (vv i))) (hB : B0 ≤ W.heap.size) :
    ∃ g cap' w', (Builtin.append_ #[23, 23] 23 #[v, .slice (some ⟨b, off, none⟩) 12 cap]).run Try.prog W = .ok (.slice (some ⟨g, 0, none⟩) 12 cap') w' ∧ B0 ≤ g ∧ OwnV w' g 3 12 12 vv ∧ Below B0 W w' := by
  obtain ⟨i0, hi, hz0, hz1, hz2⟩ := info_parts Try.infoInt
  obtain ⟨v', w', k1, k2, k3, _, _⟩ := run_append_own_at (P := Try.prog) W B0 23 23 3 i0 _ 1 8 Try.underlying23 hi hz0 hz1 hz2 rfl (by omega) v 0 _ hown ⟨b, off, none⟩ 12 cap (cl12 vv) rfl (fun j u hu => by
      obtain ⟨hj, rfl⟩ := cl12_at vv j u hu
      rw [Go.WideShapes.add_plain]
      exact hc j hj) (fun u hu => by
      obtain ⟨j, hj, e⟩ := List.mem_iff_getElem.1 hu
      have := cl12_at vv j u (by rw [List.getElem?_eq_getElem hj, e])
      rw [this.2]
      rfl) (by unfold maxLen; omega) (by omega) hB
  rcases k2.2 with ⟨_, h⟩ | ⟨g, cap', cur, e1, hg, hh, hnc, _, hsz, htk⟩
  · omega
  · simp only [Nat.zero_add] at e1
    refine ⟨g, cap', w', by rw [k1, e1], hg, ⟨cur, hh, by omega, fun i hi => ?_⟩, (Below.refl B0 W).grown k3 hB hlt⟩
    have h2 := cells12_at vv hi
    have h3 : ([] ++ cl12 vv)[i]? = some (.int .i64 (vv i)) := by
      rw [List.nil_append, ← h2, show cells12 vv = (cl12 vv).toArray from rfl, List.getElem?_toArray]
    rw [← htk, List.getElem?_take_of_lt (by omega)] at h3
    simpa using h3
theorem wp_cp12 {o : Oper} {a : Act} {K : Act → World → Prop} {Q : Exit → Act → World → Prop} {W : World} (s x : Operand)
    (ho : o.op = .call { callee := .builtin .append, args := #[s, x], argTypes := #[23, 23] }) (hty : o.type = 23)
    {B0 : Nat} {v : Value} {cap b off : Nat} {vv : Nat → Int} (hs : a.eval s = v) (hx : a.eval x = .slice (some ⟨b, off, none⟩) 12 cap)
    (hown : W.ownsRow B0 3 1 v 0 []) (hlt : ∀ j, v.ownBlock = some j → B0 ≤ j) (hc : ∀ i, i < 12 → W.cell? ⟨b, off + i, none⟩ = some (.int .i64 (vv i))) (hB : B0 ≤ W.heap.size)
    (h : ∀ g cap' w', B0 ≤ g → OwnV w' g 3 12 12 vv → Below B0 W w' → K (a.put o.dst (.slice (some ⟨g, 0, none⟩) 12 cap')) w') :
    o.wp Try.prog a W K Q := by
  obtain ⟨g, cap', w', hrun, h1, h2, h3⟩ := run_cp12 W hown hlt hc hB (cap := cap)
  unfold Oper.wp execOp
  simp only [ho, hty, resolve, invoke, builtin, Sem.run_bind, Sem.run_pure, Result.andThen_ok, List.map_toArray, List.map_cons, List.map_nil, hs, hx, hrun]
  exact h g cap' w' h1 h2 h3
theorem OwnV.setI {w : World} {G n : Nat} {T : TypeId} {v : Nat → Int} (h : OwnV w G T n n v) {j : Nat} (hj : j < n) (z : Int) : OwnV (w.setCell ⟨G, j, none⟩ (.int .i64 z)) G T n n (fun i => if i = j then z else v i) := by
  obtain ⟨cs, hh, h1, h2⟩ := h
  refine ⟨cs.setIfInBounds j (.int .i64 z), by simp [World.setCell, Array.getElem?_modify, hh], by simp [h1], fun i hi => ?_⟩
  rw [Array.getElem?_setIfInBounds]
  by_cases e : i = j
  · subst e
    rw [if_pos rfl, if_pos (by omega)]
    show some (Value.int .i64 z) = some (.int .i64 (if i = i then z else v i))
    rw [if_pos rfl]
  · rw [if_neg (fun e' => e e'.symm)]
    show cs[i]? = some (.int .i64 (if i = j then z else v i))
    rw [if_neg e]
    exact h2 i hi
theorem OwnV.eqI {w : World} {G n : Nat} {T : TypeId} {v v' : Nat → Int} (h : OwnV w G T n n v) (he : ∀ i, i < n → v i = v' i) : OwnV w G T n n v' := by
  obtain ⟨cs, hh, h1, h2⟩ := h
  exact ⟨cs, hh, h1, fun i hi => by rw [← he i hi]; exact h2 i hi⟩
theorem rowI_new (W : World) : (W.alloc (.cells #[] 3)).ownsRow W.heap.size 3 1 (.slice (some ⟨W.heap.size, 0, none⟩) 0 0) 0 [] := by
  simpa using World.ownsRow_lit W #[] 0 (e := 3) (size := 1) (Nat.le_refl _) (by unfold maxLen; omega) (by simp)
end Go.Proofs.Ytbebdhjhlheboaa
