/- Models that a draw builds: their lists, and what keeps them (no claim of its own). Conditions: as each theorem states. -/
import Derived.Test.YtafiikfaeomhpaaDrG
import Derived.Test.YtafiikfaeomhpaaMdlE
namespace Go.Proofs.Ytafiikfaeomhpaa
open Go.ChangeShapes Go.WideShapes Go.ChangeAt Go.RowKit

section
variable {w w' w1 W : World} {lo hi lo' hi' n N N' : Nat} {V : Value} {row : Option Nat}
theorem gb_of (hb : Below w.heap.size w w') : w.grownBy w' none := ⟨hb.os, hb.tape, hb.output, hb.size, fun k hk _ => hb.block k hk⟩
theorem gb_set (w : World) (p : Addr) (u : Value) : w.grownBy (w.setCell p u) (some p.block) := ⟨rfl, rfl, rfl, by simp [World.setCell], fun k _ hne => Below.heap_setCell w p u k (fun e => hne (by rw [e]))⟩
/-- The block that may have turned lies outside the range. -/
def Oth8 (row : Option Nat) (lo hi : Nat) : Prop := ∀ j, row = some j → j < lo ∨ hi ≤ j
theorem oth_none : Oth8 none lo hi := fun j e => by cases e
theorem oth_some {j : Nat} (h : j < lo ∨ hi ≤ j) : Oth8 (some j) lo hi := fun i e => by cases e; exact h

/-- A slice of n ints in a block of the range. -/
def TI (w : World) (lo hi : Nat) (V : Value) (n : Nat) : Prop := TS w lo 3 1 V n ∧ ∀ j, V.ownBlock = some j → j < hi
theorem TI.nil : TI w lo hi (.slice none 0 0) 0 := ⟨TS.nil _ _ _ _, fun j e => by cases e⟩
theorem TI.kept (h : TI w lo hi V n) (hg : w.grownBy w' row) (ho : Oth8 row lo hi) : TI w' lo hi V n := by
  obtain ⟨⟨xs, h0, h1, h2⟩, h3⟩ := h
  refine ⟨⟨xs, h0.kept hg ?_, h1, h2⟩, h3⟩
  cases e : V.ownBlock with
  | none => exact .inl rfl
  | some j =>
    right
    intro e'
    have := ho j e'.symm
    have := (h0.lt _ e).1
    have := h3 j e
    omega
theorem TI.more (h : TI w lo hi V n) (h1 : lo' ≤ lo) (h2 : hi ≤ hi') : TI w lo' hi' V n := by
  obtain ⟨⟨xs, h0, hl, hx⟩, h3⟩ := h
  refine ⟨⟨xs, ⟨h0.1, ?_⟩, hl, hx⟩, fun j e => by have := h3 j e; omega⟩
  rcases h0.2 with hh | ⟨g, cap, cur, e1, hg, hr⟩
  · exact .inl hh
  · exact .inr ⟨g, cap, cur, e1, by omega, hr⟩
theorem TS.ti (h : TS w lo 3 1 V n) (hw : w.heap.size ≤ hi) : TI w lo hi V n := ⟨h, fun j e => by have := (h.lt2 j e).2; omega⟩
theorem TI.head (h : TI w lo hi V n) : ∃ A cap, V = .slice A n cap := by
  obtain ⟨⟨xs, h0, h1, h2⟩, h3⟩ := h
  rcases h0.2 with ⟨hov, hk⟩ | ⟨g, cap, cur, hov, _⟩
  · exact ⟨none, 0, by rw [hk]; exact hov⟩
  · exact ⟨_, cap, hov⟩
theorem TI.typed (h : TI w lo hi V n) {j : Nat} (e : V.ownBlock = some j) : ∃ cs, w.heap[j]? = some (.cells cs 3 (0, 0)) := by
  obtain ⟨⟨xs, h0, h1, h2⟩, h3⟩ := h
  rcases h0.2 with ⟨rfl, hk⟩ | ⟨g, cap, cur, rfl, hg, hh, _⟩
  · cases e
  · cases e
    exact ⟨cur, hh⟩
/-- A block of another type may turn. -/
theorem TI.other (h : TI w lo hi V n) (hg : w.grownBy w' row) (ho : ∀ j, row = some j → ∃ cs T, w.heap[j]? = some (.cells cs T (0, 0)) ∧ T ≠ 3) : TI w' lo hi V n := by
  have ht := fun j e => h.typed (j := j) e
  obtain ⟨⟨xs, h0, h1, h2⟩, h3⟩ := h
  refine ⟨⟨xs, h0.kept hg ?_, h1, h2⟩, h3⟩
  cases e : V.ownBlock with
  | none => exact .inl rfl
  | some j =>
    right
    intro e'
    obtain ⟨cs, hc⟩ := ht j e
    obtain ⟨cs', T, hc', hT⟩ := ho j e'.symm
    rw [hc] at hc'
    cases hc'
    exact hT rfl
theorem TI.store (h : TI w lo hi V n) (g j : Nat) (z : Int) : TI (w.setCell ⟨g, j, none⟩ (.int .i64 z)) lo hi V n := by
  obtain ⟨A, cap, rfl⟩ := h.head
  obtain ⟨h, h3⟩ := h
  by_cases e : (Value.slice A n cap).ownBlock = some g
  · refine ⟨?_, h3⟩
    obtain ⟨xs, h0, h1, h2⟩ := id h
    rcases h0.2 with ⟨hov, _⟩ | ⟨g', cap', cur, hov, _⟩
    · rw [hov] at e; cases e
    · cases hov
      cases e
      exact h.store j z
  · exact ⟨h.setne (fun i hi e' => e (by rw [hi, e'])) _, h3⟩
theorem TI.rd (h : TI w lo hi V n) : ∃ A cap v, V = .slice A n cap ∧ RdI w w.heap.size A n v := by
  obtain ⟨A, cap, v, e, hf⟩ := h.1.ints
  exact ⟨A, cap, v, e, hf.rdAt⟩

/-- A slice of n lists of ints, in blocks of the range. -/
def EL (w : World) (lo hi : Nat) (V : Value) (n N : Nat) : Prop := ∃ xs : List Value, w.ownsRow lo 22 1 V n xs ∧ (∀ j, V.ownBlock = some j → j < hi) ∧ ∀ i, i < n → ∃ U m, xs[i]? = some U ∧ m ≤ N ∧ TI w lo hi U m
theorem EL.nil : EL w lo hi (.slice none 0 0) 0 N := ⟨[], World.ownsRow_nil _ _ _ _, (fun j e => by cases e), (fun i hi => by omega)⟩
theorem row_kept {lo hi : Nat} {T : TypeId} {s : Nat} {xs : List Value} (h : w.ownsRow lo T s V n xs) (h3 : ∀ j, V.ownBlock = some j → j < hi) (hg : w.grownBy w' row) (ho : Oth8 row lo hi) : w'.ownsRow lo T s V n xs := h.kept hg (by
  cases e : V.ownBlock with
  | none => exact .inl rfl
  | some j =>
    right
    intro e'
    have := ho j e'.symm
    have := (h.lt _ e).1
    have := h3 j e
    omega)
theorem EL.kept (h : EL w lo hi V n N) (hg : w.grownBy w' row) (ho : Oth8 row lo hi) : EL w' lo hi V n N := by
  obtain ⟨xs, h0, h3, h4⟩ := h
  refine ⟨xs, row_kept h0 h3 hg ho, h3, fun i hi' => ?_⟩
  obtain ⟨U, m, a, b, c⟩ := h4 i hi'
  exact ⟨U, m, a, b, c.kept hg ho⟩
theorem row_more {T : TypeId} {s : Nat} {xs : List Value} (h : w.ownsRow lo T s V n xs) (h1 : lo' ≤ lo) : w.ownsRow lo' T s V n xs := by
  refine ⟨h.1, ?_⟩
  rcases h.2 with hh | ⟨g, cap, cur, e1, hg, hr⟩
  · exact .inl hh
  · exact .inr ⟨g, cap, cur, e1, by omega, hr⟩
theorem EL.more (h : EL w lo hi V n N) (h1 : lo' ≤ lo) (h2 : hi ≤ hi') (hN : N ≤ N') : EL w lo' hi' V n N' := by
  obtain ⟨xs, h0, h3, h4⟩ := h
  refine ⟨xs, row_more h0 h1, fun j e => by have := h3 j e; omega, fun i hi' => ?_⟩
  obtain ⟨U, m, a, b, c⟩ := h4 i hi'
  exact ⟨U, m, a, by omega, c.more h1 h2⟩
theorem row_typed {T : TypeId} {s : Nat} {xs : List Value} (h : w.ownsRow lo T s V n xs) {j : Nat} (e : V.ownBlock = some j) : ∃ cs, w.heap[j]? = some (.cells cs T (0, 0)) := by
  rcases h.2 with ⟨rfl, hk⟩ | ⟨g, cap, cur, rfl, hg, hh, _⟩
  · cases e
  · cases e
    exact ⟨cur, hh⟩
theorem row_other {T : TypeId} {s : Nat} {xs : List Value} (h : w.ownsRow lo T s V n xs) (hg : w.grownBy w' row) (ho : ∀ j, row = some j → ∃ cs T', w.heap[j]? = some (.cells cs T' (0, 0)) ∧ T' ≠ T) : w'.ownsRow lo T s V n xs := h.kept hg (by
  cases e : V.ownBlock with
  | none => exact .inl rfl
  | some j =>
    right
    intro e'
    obtain ⟨cs, hc⟩ := row_typed h e
    obtain ⟨cs', T', hc', hT⟩ := ho j e'.symm
    rw [hc] at hc'
    cases hc'
    exact hT rfl)
theorem EL.other (h : EL w lo hi V n N) (hg : w.grownBy w' row) (ho : ∀ j, row = some j → ∃ cs T, w.heap[j]? = some (.cells cs T (0, 0)) ∧ T ≠ 3 ∧ T ≠ 22) : EL w' lo hi V n N := by
  obtain ⟨xs, h0, h3, h4⟩ := h
  refine ⟨xs, row_other h0 hg (fun j e => by obtain ⟨cs, T, a, b, c⟩ := ho j e; exact ⟨cs, T, a, c⟩), h3, fun i hi' => ?_⟩
  obtain ⟨U, m, a, b, c⟩ := h4 i hi'
  exact ⟨U, m, a, b, c.other hg (fun j e => by obtain ⟨cs, T, a, b, c⟩ := ho j e; exact ⟨cs, T, a, b⟩)⟩
theorem EL.store (h : EL w lo hi V n N) {g : Nat} {cs : Array Value} (hg : w.heap[g]? = some (.cells cs 3 (0, 0))) (j : Nat) (z : Int) : EL (w.setCell ⟨g, j, none⟩ (.int .i64 z)) lo hi V n N := by
  obtain ⟨xs, h0, h3, h4⟩ := h
  refine ⟨xs, row_other h0 (gb_set w _ _) (fun i e => by cases e; exact ⟨cs, _, hg, by decide⟩), h3, fun i hi' => ?_⟩
  obtain ⟨U, m, a, b, c⟩ := h4 i hi'
  exact ⟨U, m, a, b, c.store g j z⟩

/-- The five cells of a rule. -/
def E5 (w : World) (lo hi N : Nat) (c : Nat → Value) : Prop := ∃ k bd nv nc nr, c 0 = .int .i64 k ∧ c 3 = .int .i64 bd ∧ nv ≤ N ∧ nc ≤ N ∧ nr ≤ N ∧ TI w lo hi (c 1) nv ∧ TI w lo hi (c 2) nc ∧ EL w lo hi (c 4) nr N
theorem E5.kept {c : Nat → Value} (h : E5 w lo hi N c) (hg : w.grownBy w' row) (ho : Oth8 row lo hi) : E5 w' lo hi N c := by
  obtain ⟨k, bd, nv, nc, nr, a, b, p, q, r, x, y, z⟩ := h
  exact ⟨k, bd, nv, nc, nr, a, b, p, q, r, x.kept hg ho, y.kept hg ho, z.kept hg ho⟩
theorem E5.more {c : Nat → Value} (h : E5 w lo hi N c) (h1 : lo' ≤ lo) (h2 : hi ≤ hi') (hN : N ≤ N') : E5 w lo' hi' N' c := by
  obtain ⟨k, bd, nv, nc, nr, a, b, p, q, r, x, y, z⟩ := h
  exact ⟨k, bd, nv, nc, nr, a, b, by omega, by omega, by omega, x.more h1 h2, y.more h1 h2, z.more h1 h2 hN⟩
theorem E5.other {c : Nat → Value} (h : E5 w lo hi N c) (hg : w.grownBy w' row) (ho : ∀ j, row = some j → ∃ cs T, w.heap[j]? = some (.cells cs T (0, 0)) ∧ T ≠ 3 ∧ T ≠ 22) : E5 w' lo hi N c := by
  obtain ⟨k, bd, nv, nc, nr, a, b, p, q, r, x, y, z⟩ := h
  have h1 : ∀ j, row = some j → ∃ cs T, w.heap[j]? = some (.cells cs T (0, 0)) ∧ T ≠ 3 := fun j e => by obtain ⟨cs, T, a, b, c⟩ := ho j e; exact ⟨cs, T, a, b⟩
  exact ⟨k, bd, nv, nc, nr, a, b, p, q, r, x.other hg h1, y.other hg h1, z.other hg ho⟩
theorem E5.store {c : Nat → Value} (h : E5 w lo hi N c) {g : Nat} {cs : Array Value} (hg : w.heap[g]? = some (.cells cs 3 (0, 0))) (j : Nat) (v : Int) : E5 (w.setCell ⟨g, j, none⟩ (.int .i64 v)) lo hi N c := by
  obtain ⟨k, bd, nv, nc, nr, a, b, p, q, r, x, y, z⟩ := h
  exact ⟨k, bd, nv, nc, nr, a, b, p, q, r, x.store g j v, y.store g j v, z.store hg j v⟩
theorem E5.cong {c c' : Nat → Value} (h : E5 w lo hi N c) (h0 : ∃ k, c' 0 = .int .i64 k) (h1 : c' 1 = c 1) (h2 : c' 2 = c 2) (h3 : ∃ k, c' 3 = .int .i64 k) (h4 : c' 4 = c 4) : E5 w lo hi N c' := by
  obtain ⟨k, bd, nv, nc, nr, a, b, p, q, r, x, y, z⟩ := h
  obtain ⟨k0, e0⟩ := h0
  obtain ⟨k3, e3⟩ := h3
  exact ⟨k0, k3, nv, nc, nr, e0, e3, p, q, r, by rw [h1]; exact x, by rw [h2]; exact y, by rw [h4]; exact z⟩

/-- A slice of n rules, in blocks of the range. -/
def ER (w : World) (lo hi : Nat) (V : Value) (n N : Nat) : Prop := ∃ xs : List Value, w.ownsRow lo 90 5 V n xs ∧ (∀ j, V.ownBlock = some j → j < hi) ∧ ∀ i, i < n → ∃ c : Nat → Value, (∀ j, j < 5 → xs[i * 5 + j]? = some (c j)) ∧ E5 w lo hi N c
theorem ER.nil : ER w lo hi (.slice none 0 0) 0 N := ⟨[], World.ownsRow_nil _ _ _ _, (fun j e => by cases e), (fun i hi => by omega)⟩
theorem ER.kept (h : ER w lo hi V n N) (hg : w.grownBy w' row) (ho : Oth8 row lo hi) : ER w' lo hi V n N := by
  obtain ⟨xs, h0, h3, h4⟩ := h
  refine ⟨xs, row_kept h0 h3 hg ho, h3, fun i hi' => ?_⟩
  obtain ⟨c, a, b⟩ := h4 i hi'
  exact ⟨c, a, b.kept hg ho⟩
theorem ER.more (h : ER w lo hi V n N) (h1 : lo' ≤ lo) (h2 : hi ≤ hi') (hN : N ≤ N') : ER w lo' hi' V n N' := by
  obtain ⟨xs, h0, h3, h4⟩ := h
  refine ⟨xs, row_more h0 h1, fun j e => by have := h3 j e; omega, fun i hi' => ?_⟩
  obtain ⟨c, a, b⟩ := h4 i hi'
  exact ⟨c, a, b.more h1 h2 hN⟩
theorem ER.store (h : ER w lo hi V n N) {g : Nat} {cs : Array Value} (hg : w.heap[g]? = some (.cells cs 3 (0, 0))) (j : Nat) (z : Int) : ER (w.setCell ⟨g, j, none⟩ (.int .i64 z)) lo hi V n N := by
  obtain ⟨xs, h0, h3, h4⟩ := h
  refine ⟨xs, row_other h0 (gb_set w _ _) (fun i e => by cases e; exact ⟨cs, _, hg, by decide⟩), h3, fun i hi' => ?_⟩
  obtain ⟨c, a, b⟩ := h4 i hi'
  exact ⟨c, a, b.store hg j z⟩
theorem ER.head (h : ER w lo hi V n N) : ∃ A cap, V = .slice A n cap := by
  obtain ⟨xs, h0, h1, h2⟩ := h
  rcases h0.2 with ⟨hov, hk⟩ | ⟨g, cap, cur, hov, _⟩
  · exact ⟨none, 0, by rw [hk]; exact hov⟩
  · exact ⟨_, cap, hov⟩
theorem EL.head (h : EL w lo hi V n N) : ∃ A cap, V = .slice A n cap := by
  obtain ⟨xs, h0, h1, h2⟩ := h
  rcases h0.2 with ⟨hov, hk⟩ | ⟨g, cap, cur, hov, _⟩
  · exact ⟨none, 0, by rw [hk]; exact hov⟩
  · exact ⟨_, cap, hov⟩
/-- The five cells of element i. -/
theorem ER.at_ (h : ER w lo hi V n N) {i : Nat} (hi' : i < n) : ∃ g cap c, V = .slice (some ⟨g, 0, none⟩) n cap ∧ lo ≤ g ∧ g < w.heap.size ∧ (∃ cs, w.heap[g]? = some (.cells cs 90 (0, 0))) ∧ (∀ j, j < 5 → w.cell? ⟨g, i * 5 + j, none⟩ = some (c j)) ∧ (∀ j, w.frozen? ⟨g, j, none⟩ = false) ∧ E5 w lo hi N c := by
  obtain ⟨xs, h0, h1, h2⟩ := h
  obtain ⟨c, a, b⟩ := h2 i hi'
  rcases id h0.2 with ⟨_, hk⟩ | ⟨g, cap, cur, rfl, hg, hh, _⟩
  · omega
  · refine ⟨g, cap, c, rfl, hg, (h0.lt g rfl).2, ⟨cur, hh⟩, fun j hj => ?_, fun j => by simp [World.frozen?, hh], b⟩
    have := h0.cells rfl _ _ (a j hj)
    rwa [Go.WideShapes.add_plain, Nat.zero_add] at this
/-- The kind or the bound of a rule may be laid anew. -/
theorem ER.put {g cap : Nat} (h : ER w lo hi (.slice (some ⟨g, 0, none⟩) n cap) n N) {i o : Nat} (ho : o = 0 ∨ o = 3) (z : Int) : ER (w.setCell ⟨g, i * 5 + o, none⟩ (.int .i64 z)) lo hi (.slice (some ⟨g, 0, none⟩) n cap) n N := by
  obtain ⟨xs, h0, h1, h2⟩ := h
  obtain ⟨cs, hty⟩ := row_typed h0 rfl
  refine ⟨_, (h0.stored (i * 5 + o) (.int .i64 z)).1, h1, fun k hk => ?_⟩
  obtain ⟨c, a, b⟩ := h2 k hk
  have hb := b.other (gb_set w ⟨g, i * 5 + o, none⟩ (.int .i64 z)) (fun j e => by cases e; exact ⟨cs, _, hty, by decide, by decide⟩)
  by_cases e : k = i
  · subst e
    refine ⟨fun j => if j = o then .int .i64 z else c j, fun j hj => ?_, hb.cong ?_ ?_ ?_ ?_ ?_⟩
    · have hl := (List.getElem?_eq_some_iff.1 (a j hj)).1
      show _ = some (if j = o then Value.int .i64 z else c j)
      by_cases ej : j = o
      · subst ej
        rw [if_pos rfl, List.getElem?_set_self hl]
      · rw [if_neg ej, List.getElem?_set_ne (by omega)]
        exact a j hj
    · by_cases e0 : 0 = o
      · exact ⟨z, if_pos e0⟩
      · obtain ⟨k0, _, _, _, _, e1, _⟩ := b
        exact ⟨k0, (if_neg e0).trans e1⟩
    · exact if_neg (by omega)
    · exact if_neg (by omega)
    · by_cases e0 : 3 = o
      · exact ⟨z, if_pos e0⟩
      · obtain ⟨_, k0, _, _, _, _, e1, _⟩ := b
        exact ⟨k0, (if_neg e0).trans e1⟩
    · exact if_neg (by omega)
  · refine ⟨c, fun j hj => ?_, hb⟩
    rw [List.getElem?_set_ne (by omega)]
    exact a j hj
end
end Go.Proofs.Ytafiikfaeomhpaa
