/- The memory of a propagator (no claim of its own). Conditions: as each theorem states. -/
import Derived.Test.YtooknldfkcdneaaPrgT
import Derived.Test.YtooknldfkcdneaaSumD
import Derived.Laws.Tables
import Derived.Deep.AppendLies
namespace Go.Proofs.Ytooknldfkcdneaa
open Go.ChangeShapes Go.WideShapes Go.ChangeAt Go.RowKit Go.Shelf

/-- The block of a propagator: its list, the slacks of its first m constraints, its uses. -/
def PgAt (w : World) (B : Nat) (lv : Value) (m : Nat) (sl : Nat → Int) (uv : Nat → Value) : Prop :=
  ∃ cs, w.heap[B]? = some (.cells cs 103 (0, 0)) ∧ cs.size = 1426 ∧ cs[0]? = some lv ∧ (∀ i, i < m → cs[1 + i]? = some (.int .i64 (sl i))) ∧ (∀ j, j < 25 → cs[1401 + j]? = some (uv j)) ∧ ∀ i, i < 1400 → ∃ z, cs[1 + i]? = some z ∧ z.oneCell' = true
section
variable {w w' : World} {B m : Nat} {lv : Value} {sl : Nat → Int} {uv : Nat → Value}
theorem PgAt.lt (h : PgAt w B lv m sl uv) : B < w.heap.size := by
  obtain ⟨cs, hh, _⟩ := h
  rcases Nat.lt_or_ge B w.heap.size with hlt | hge
  · exact hlt
  · rw [Array.getElem?_eq_none hge] at hh; cases hh
theorem PgAt.same (h : PgAt w B lv m sl uv) (hg : w'.heap[B]? = w.heap[B]?) : PgAt w' B lv m sl uv := by
  obtain ⟨cs, hh, h1⟩ := h
  exact ⟨cs, hg.trans hh, h1⟩
theorem PgAt.frozen (h : PgAt w B lv m sl uv) (j : Nat) : w.frozen? ⟨B, j, none⟩ = false := by
  obtain ⟨cs, hh, _⟩ := h
  simp [World.frozen?, hh]
theorem PgAt.cellL (h : PgAt w B lv m sl uv) : w.cell? ⟨B, 0, none⟩ = some lv := by
  obtain ⟨cs, hh, _, h1, _⟩ := h
  exact (cell_of_row w B 0 cs _ _ hh).trans h1
theorem PgAt.cellS (h : PgAt w B lv m sl uv) {i : Nat} (hi : i < m) : w.cell? ⟨B, 1 + i, none⟩ = some (.int .i64 (sl i)) := by
  obtain ⟨cs, hh, _, _, h2, _⟩ := h
  exact (cell_of_row w B _ cs _ _ hh).trans (h2 i hi)
theorem PgAt.cellA (h : PgAt w B lv m sl uv) {i : Nat} (hi : i < 1426) : ∃ u, w.cell? ⟨B, i, none⟩ = some u := by
  obtain ⟨cs, hh, hs, _⟩ := h
  exact ⟨cs[i]'(by omega), (cell_of_row w B _ cs _ _ hh).trans (Array.getElem?_eq_getElem (by omega))⟩
theorem PgAt.cellU (h : PgAt w B lv m sl uv) {j : Nat} (hj : j < 25) : w.cell? ⟨B, 1401 + j, none⟩ = some (uv j) := by
  obtain ⟨cs, hh, _, _, _, h3, _⟩ := h
  exact (cell_of_row w B _ cs _ _ hh).trans (h3 j hj)
theorem heap_put {w : World} {B i : Nat} {cs : Array Value} {T : TypeId} (u : Value) (hh : w.heap[B]? = some (.cells cs T (0, 0))) : (w.setCell ⟨B, i, none⟩ u).heap[B]? = some (.cells (cs.setIfInBounds i u) T (0, 0)) := by
  simp [World.setCell, Array.getElem?_modify, hh]
theorem PgAt.setL (h : PgAt w B lv m sl uv) (u : Value) : PgAt (w.setCell ⟨B, 0, none⟩ u) B u m sl uv := by
  obtain ⟨cs, hh, hs, h1, h2, h3, h4⟩ := h
  refine ⟨cs.setIfInBounds 0 u, heap_put u hh, by simpa using hs, ?_, fun i hi => ?_, fun j hj => ?_, fun i hi => ?_⟩
  · rw [Array.getElem?_setIfInBounds, if_pos rfl, if_pos (by omega)]
  · rw [Array.getElem?_setIfInBounds, if_neg (by omega)]; exact h2 i hi
  · rw [Array.getElem?_setIfInBounds, if_neg (by omega)]; exact h3 j hj
  · rw [Array.getElem?_setIfInBounds, if_neg (by omega)]; exact h4 i hi
theorem PgAt.setS (h : PgAt w B lv m sl uv) {k : Nat} (hk : k ≤ m) (hm : m < 1400) (z : Int) : PgAt (w.setCell ⟨B, 1 + k, none⟩ (.int .i64 z)) B lv (if k = m then m + 1 else m) (fun i => if i = k then z else sl i) uv := by
  obtain ⟨cs, hh, hs, h1, h2, h3, h4⟩ := h
  refine ⟨cs.setIfInBounds (1 + k) (.int .i64 z), heap_put _ hh, by simpa using hs, ?_, fun i hi => ?_, fun j hj => ?_, fun i hi => ?_⟩
  · rw [Array.getElem?_setIfInBounds, if_neg (by omega)]; exact h1
  · rw [Array.getElem?_setIfInBounds]
    by_cases e : i = k
    · subst e
      rw [if_pos rfl, if_pos (by omega)]
      simp
    · rw [if_neg (by omega)]
      show _ = some (Value.int .i64 (if i = k then z else sl i))
      rw [if_neg e]
      exact h2 i (by split at hi <;> omega)
  · rw [Array.getElem?_setIfInBounds, if_neg (by omega)]; exact h3 j hj
  · rw [Array.getElem?_setIfInBounds]
    by_cases e : i = k
    · subst e
      exact ⟨.int .i64 z, by rw [if_pos rfl, if_pos (by omega)], rfl⟩
    · rw [if_neg (by omega)]
      exact h4 i hi
theorem PgAt.setU (h : PgAt w B lv m sl uv) {k : Nat} (hk : k < 25) (hm : m ≤ 1400) (u : Value) : PgAt (w.setCell ⟨B, 1401 + k, none⟩ u) B lv m sl (fun j => if j = k then u else uv j) := by
  obtain ⟨cs, hh, hs, h1, h2, h3, h4⟩ := h
  refine ⟨cs.setIfInBounds (1401 + k) u, heap_put _ hh, by simpa using hs, ?_, fun i hi => ?_, fun j hj => ?_, fun i hi => ?_⟩
  · rw [Array.getElem?_setIfInBounds, if_neg (by omega)]; exact h1
  · rw [Array.getElem?_setIfInBounds, if_neg (by omega)]; exact h2 i hi
  · rw [Array.getElem?_setIfInBounds]
    by_cases e : j = k
    · subst e
      rw [if_pos rfl, if_pos (by omega)]
      simp
    · rw [if_neg (by omega)]
      show _ = some (if j = k then u else uv j)
      rw [if_neg e]
      exact h3 j hj
  · rw [Array.getElem?_setIfInBounds, if_neg (by omega)]; exact h4 i hi
end

/-- The cells of a row of uses. -/
def ucells : List (Nat × Int) → List Value
  | [] => []
  | r :: rs => .int .i64 r.1 :: .int .i64 r.2 :: ucells rs
theorem ucells_append (xs ys : List (Nat × Int)) : ucells (xs ++ ys) = ucells xs ++ ucells ys := by
  induction xs with
  | nil => rfl
  | cons x xs ih => simp [ucells, ih]
/-- The uses of a constraint's terms, of those of the first constraints: at the place 12 + the literal. -/
def usT (k : Nat) (c l : Nat → Int) : Nat → Nat → List (Nat × Int)
  | 0, _ => []
  | t + 1, j => usT k c l t j ++ (if 12 + l t = (j : Int) then [(k, c t)] else [])
def usP (p : Nat → Con) : Nat → Nat → List (Nat × Int)
  | 0, _ => []
  | k + 1, j => usP p k j ++ usT k (p k).c (p k).l (p k).n j

/-- A row of constraints whose terms lie below lo. -/
def ConRow (w : World) (lo : Nat) (p : Nat → Con) (m : Nat) (xs : List Value) : Prop :=
  ∀ i, i < m → ∃ Ai ci, xs[i * 2]? = some (.slice Ai (p i).n ci) ∧ xs[i * 2 + 1]? = some (.int .i64 (p i).bd) ∧ Rd w lo Ai (p i).n (p i).c (p i).l

/-- A propagator: its block, with the slacks of the first s constraints; the rows that it owns, the list's of m constraints, each a block of its own. -/
structure Pg (w : World) (lo B : Nat) (lv : Value) (m s : Nat) (p : Nat → Con) (sl : Nat → Int) (us : Nat → List (Nat × Int)) (uv : Nat → Value) : Prop where
  cel : PgAt w B lv s sl uv
  lst : ∃ xs, w.ownsRow lo 42 2 lv m xs ∧ ConRow w lo p m xs
  use : ∀ j, j < 25 → w.ownsRow lo 123 2 (uv j) (us j).length (ucells (us j))
  d1 : ∀ j, j < 25 → ∀ b, (uv j).ownBlock = some b → lv.ownBlock ≠ some b ∧ b ≠ B
  d2 : ∀ j, j < 25 → ∀ j', j' < 25 → j ≠ j' → ∀ b, (uv j).ownBlock = some b → (uv j').ownBlock ≠ some b
  d3 : lv.ownBlock ≠ some B
  low : lo ≤ B
theorem none_or {o : Option Nat} {R : Option Nat} (h : ∀ b, o = some b → R ≠ some b) : o = none ∨ o ≠ R := by
  cases o with
  | none => exact .inl rfl
  | some b => exact .inr fun e => h b rfl e.symm
section
variable {w w' W W0 w1 : World} {lo B m s g cap1 : Nat} {lv : Value} {p : Nat → Con} {sl : Nat → Int} {us : Nat → List (Nat × Int)} {uv : Nat → Value}
theorem ConRow.below {xs : List Value} (h : ConRow w lo p m xs) (hb : Below lo w w') : ConRow w' lo p m xs := fun i hi => by
  obtain ⟨Ai, ci, h1, h2, h3⟩ := h i hi
  exact ⟨Ai, ci, h1, h2, h3.below hb⟩
theorem Pg.loB (h : Pg w lo B lv m s p sl us uv) : lo ≤ w.heap.size := Nat.le_trans h.low (Nat.le_of_lt h.cel.lt)
/-- What is written neither into the propagator's block nor into a row of it leaves it as it is. -/
theorem Pg.kept {R : Option Nat} (h : Pg w lo B lv m s p sl us uv) (hg : w.grownBy w' R) (hlo : Below lo w w') (h1 : R ≠ some B) (h2 : lv.ownBlock = none ∨ lv.ownBlock ≠ R) (h3 : ∀ j, j < 25 → (uv j).ownBlock = none ∨ (uv j).ownBlock ≠ R) : Pg w' lo B lv m s p sl us uv := by
  obtain ⟨xs, hx, hc⟩ := h.lst
  exact ⟨h.cel.same (hg.block B h.cel.lt (fun e => h1 e.symm)), ⟨xs, hx.kept hg h2, hc.below hlo⟩, fun j hj => (h.use j hj).kept hg (h3 j hj), h.d1, h.d2, h.d3, h.low⟩
theorem Pg.below (h : Pg w lo B lv m s p sl us uv) (hb : Below w.heap.size w w') : Pg w' lo B lv m s p sl us uv := by
  exact h.kept (R := none) ⟨hb.os, hb.tape, hb.output, hb.size, fun k hk _ => hb.block k hk⟩ (hb.mono h.loB) (by simp) (by cases lv.ownBlock <;> simp) (fun j _ => by cases (uv j).ownBlock <;> simp)
/-- A store into the propagator's block that its rows do not feel. -/
theorem Pg.setB {i : Nat} {u : Value} {s' : Nat} {sl' : Nat → Int} (h : Pg w lo B lv m s p sl us uv) (hc : PgAt (w.setCell ⟨B, i, none⟩ u) B lv s' sl' uv) : Pg (w.setCell ⟨B, i, none⟩ u) lo B lv m s' p sl' us uv := by
  obtain ⟨xs, hx, hcr⟩ := h.lst
  have hg := grown_set w B i u
  exact ⟨hc, ⟨xs, hx.kept hg (none_or fun b e => fun e2 => h.d3 (by rw [e, e2])), hcr.below ((Below.refl lo w).setCell h.low u)⟩, fun j hj => (h.use j hj).kept hg (none_or fun b e e2 => (h.d1 j hj b e).2 (by cases e2; rfl)), h.d1, h.d2, h.d3, h.low⟩
/-- The append of a constraint to the list, and the store of the list. -/
theorem Pg.app {xs : List Value} {A : Option Addr} {cap : Nat} (h : Pg W lo B lv m s p sl us uv) (hb : Below W.heap.size W W0) (hcr : ConRow W lo p m xs) (hx : xs.length = m * 2) (hr : Rd W lo A (p m).n (p m).c (p m).l)
    (hown : w1.ownsRow lo 42 2 (.slice (some ⟨g, 0, none⟩) (m + 1) cap1) (m + 1) (xs ++ [.slice A (p m).n cap, .int .i64 (p m).bd])) (hg : W0.grownBy w1 lv.ownBlock) (hat : lv.ownBlock = some g ∨ g = W0.heap.size) :
    Pg (w1.setCell ⟨B, 0, none⟩ (.slice (some ⟨g, 0, none⟩) (m + 1) cap1)) lo B (.slice (some ⟨g, 0, none⟩) (m + 1) cap1) (m + 1) s p sl us uv ∧ Below lo W (w1.setCell ⟨B, 0, none⟩ (.slice (some ⟨g, 0, none⟩) (m + 1) cap1)) := by
  have h0 := h.below hb
  have hlo0 := h0.loB
  obtain ⟨ys, hy, _⟩ := h0.lst
  have hB0 := h0.cel.lt
  have hgB : g ≠ B := by
    rcases hat with e | e
    · intro e2; exact h0.d3 (by rw [e, e2])
    · omega
  have hl1 : Below lo W0 w1 := (Below.refl lo W0).grown hg hlo0 fun k e => (hy.lt k e).1
  have hl2 : Below lo W (w1.setCell ⟨B, 0, none⟩ (.slice (some ⟨g, 0, none⟩) (m + 1) cap1)) := ((hb.mono h.loB).trans hl1).setCell h.low _
  have hset := grown_set w1 B 0 (.slice (some ⟨g, 0, none⟩) (m + 1) cap1)
  refine ⟨⟨(h0.cel.same (hg.block B hB0 (fun e => h0.d3 e.symm))).setL _, ⟨_, hown.kept hset (.inr (by show some g ≠ some B; simp [hgB])), fun i hi => ?_⟩, fun j hj => ((h0.use j hj).kept hg (none_or fun b e e2 => (h0.d1 j hj b e).1 e2)).kept hset (none_or fun b e e2 => (h0.d1 j hj b e).2 (by cases e2; rfl)), fun j hj b e => ⟨?_, (h0.d1 j hj b e).2⟩, h0.d2, by show some g ≠ some B; simp [hgB], h.low⟩, hl2⟩
  · by_cases e : i = m
    · subst e
      exact ⟨A, cap, by rw [List.getElem?_append_right (by omega), hx, Nat.sub_self]; rfl, by rw [List.getElem?_append_right (by omega), hx]; simp, hr.below hl2⟩
    · obtain ⟨Ai, ci, h1, h2, h3⟩ := hcr i (by omega)
      exact ⟨Ai, ci, by rw [List.getElem?_append_left (by omega)]; exact h1, by rw [List.getElem?_append_left (by omega)]; exact h2, h3.below hl2⟩
  · show some g ≠ some b
    have hbl := ((h0.use j hj).lt b e).2
    rcases hat with e2 | e2
    · rw [← e2]; exact (h0.d1 j hj b e).1
    · simp; omega
/-- The append of a use, and its store. -/
theorem Pg.appU {k : Nat} {r : Nat × Int} (h : Pg W lo B lv m s p sl us uv) (hb : Below W.heap.size W W0) (hk : k < 25) (hs : s ≤ 1400)
    (hown : w1.ownsRow lo 123 2 (.slice (some ⟨g, 0, none⟩) ((us k).length + 1) cap1) ((us k).length + 1) (ucells (us k) ++ [.int .i64 r.1, .int .i64 r.2])) (hg : W0.grownBy w1 (uv k).ownBlock) (hat : (uv k).ownBlock = some g ∨ g = W0.heap.size) :
    Pg (w1.setCell ⟨B, 1401 + k, none⟩ (.slice (some ⟨g, 0, none⟩) ((us k).length + 1) cap1)) lo B lv m s p sl (fun j => if j = k then us k ++ [r] else us j) (fun j => if j = k then .slice (some ⟨g, 0, none⟩) ((us k).length + 1) cap1 else uv j) ∧ Below lo W (w1.setCell ⟨B, 1401 + k, none⟩ (.slice (some ⟨g, 0, none⟩) ((us k).length + 1) cap1)) := by
  have h0 := h.below hb
  have hlo0 := h0.loB
  have hy := h0.use k hk
  have hB0 := h0.cel.lt
  obtain ⟨xs, hx, hcr⟩ := h0.lst
  have hgB : g ≠ B := by
    rcases hat with e | e
    · intro e2; exact (h0.d1 k hk g e).2 e2
    · omega
  have hl1 : Below lo W0 w1 := (Below.refl lo W0).grown hg hlo0 fun k e => (hy.lt k e).1
  have hl2 : Below lo W0 (w1.setCell ⟨B, 1401 + k, none⟩ (.slice (some ⟨g, 0, none⟩) ((us k).length + 1) cap1)) := hl1.setCell h.low _
  have hset := grown_set w1 B (1401 + k) (.slice (some ⟨g, 0, none⟩) ((us k).length + 1) cap1)
  have hgl : ∀ b, lv.ownBlock = some b → b ≠ g := fun b e => by
    rcases hat with e2 | e2
    · intro e3; subst e3; exact (h0.d1 k hk _ e2).1 e
    · have := (hx.lt b e).2; omega
  have hgu : ∀ j, j < 25 → j ≠ k → ∀ b, (uv j).ownBlock = some b → b ≠ g := fun j hj hne b e => by
    rcases hat with e2 | e2
    · intro e3; subst e3; exact h0.d2 j hj k hk hne _ e e2
    · have := ((h0.use j hj).lt b e).2; omega
  refine ⟨⟨(h0.cel.same (hg.block B hB0 (fun e => (h0.d1 k hk B e.symm).2 rfl))).setU hk hs _, ⟨xs, (hx.kept hg (none_or fun b e e2 => (h0.d1 k hk b e2).1 e)).kept hset (none_or fun b e e2 => h0.d3 (by rw [e, ← e2])), hcr.below hl2⟩, fun j hj => ?_, fun j hj b e => ?_, fun j hj j' hj' hne b e => ?_, h.d3, h.low⟩, (hb.mono h.loB).trans hl2⟩
  · by_cases e : j = k
    · subst e
      simp only [if_true]
      rw [List.length_append, ucells_append]
      exact hown.kept hset (.inr (by show some g ≠ some B; simp [hgB]))
    · simp only [if_neg e]
      exact ((h0.use j hj).kept hg (none_or fun b e1 e2 => h0.d2 j hj k hk e b e1 e2)).kept hset (none_or fun b e1 e2 => (h0.d1 j hj b e1).2 (by cases e2; rfl))
  · by_cases e2 : j = k
    · subst e2
      simp only [if_true] at e
      have e' : g = b := by injection e
      subst e'
      exact ⟨fun e3 => hgl _ e3 rfl, hgB⟩
    · simp only [if_neg e2] at e
      exact h0.d1 j hj b e
  · by_cases e1 : j = k
    · subst e1
      simp only [if_true] at e
      have e' : g = b := by injection e
      subst e'
      simp only [if_neg (fun h => hne h.symm : ¬ j' = j)]
      exact fun e3 => hgu j' hj' (fun h => hne h.symm) _ e3 rfl
    · simp only [if_neg e1] at e
      by_cases e2 : j' = k
      · subst e2
        simp only [if_true]
        show some g ≠ some b
        have := hgu j hj e1 b e
        simp
        omega
      · simp only [if_neg e2]
        exact h0.d2 j hj j' hj' hne b e
end
end Go.Proofs.Ytooknldfkcdneaa
