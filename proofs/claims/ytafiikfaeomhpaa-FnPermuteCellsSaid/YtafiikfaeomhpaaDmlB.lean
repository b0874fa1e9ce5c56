/- Models that a draw builds: how they grow, and what they read as (no claim of its own). Conditions: as each theorem states. -/
import Derived.Test.YtafiikfaeomhpaaDmlA
import Derived.Maps.AppendAt
import Derived.Laws.AppendOwnNone
namespace Go.Proofs.Ytafiikfaeomhpaa
open Go.ChangeShapes Go.WideShapes Go.ChangeAt Go.RowKit

section
variable {w w' w1 W : World} {lo hi n N k : Nat} {V : Value} {row : Option Nat}
set_option maxRecDepth 100000 in
set_option maxHeartbeats 800000 in
/-- The append of one rule. -/
theorem wp_er1 {o : Oper} {a : Act} {K : Act → World → Prop} {Q : Exit → Act → World → Prop} (s x : Operand)
    (ho : o.op = .call { callee := .builtin .append, args := #[s, x], argTypes := #[28, 28] })
    (h : ER W lo hi V k N) (hlo : lo ≤ W.heap.size) (hs : a.eval s = V) {H : Nat} (hx : a.eval x = .slice (some ⟨H, 0, none⟩) 1 1) {c : Nat → Value} {T' : TypeId} (hnew : W.heap[H]? = some (.cells #[c 0, c 1, c 2, c 3, c 4] T' (0, 0))) (hel : E5 W lo hi N c) (hk : k ≤ 10000)
    (hK : ∀ g cap' w', ER w' lo w'.heap.size (.slice (some ⟨g, 0, none⟩) (k + 1) cap') (k + 1) N → W.grownBy w' V.ownBlock → (∀ j, V.ownBlock = some j → lo ≤ j ∧ j < W.heap.size ∧ j < hi) → hi ≤ w'.heap.size → K (a.put o.dst (.slice (some ⟨g, 0, none⟩) (k + 1) cap')) w') (hhi : hi ≤ W.heap.size) :
    o.wp Try.prog a W K Q := by
  obtain ⟨i0, hi0, hz0, hz1, hz2⟩ := info_parts Try.infoRu
  obtain ⟨xs, h0, h1, h2⟩ := h
  have hone : ∀ u ∈ [c 0, c 1, c 2, c 3, c 4], u.oneCell' = true := by
    obtain ⟨k0, bd, nv, nc, nr, e0, e3, _, _, _, t1, t2, t4⟩ := hel
    obtain ⟨_, _, e1⟩ := t1.head
    obtain ⟨_, _, e2⟩ := t2.head
    obtain ⟨_, _, e4⟩ := t4.head
    intro u hu
    simp only [List.mem_cons, List.not_mem_nil, or_false] at hu
    rcases hu with rfl | rfl | rfl | rfl | rfl
    · rw [e0]; rfl
    · rw [e1]; rfl
    · rw [e2]; rfl
    · rw [e3]; rfl
    · rw [e4]; rfl
  refine wp_append_lies _ s x 28 ho lo 90 i0 _ 5 _ Try.underlying28 hi0 hz0 hz1 hz2 rfl (by omega) V k _ hs h0 ⟨H, 0, none⟩ 1 1 [c 0, c 1, c 2, c 3, c 4] hx (by rfl)
    (World.news_of_block hnew) hone (by omega) (by unfold maxLen; omega) (by omega) hlo W.heap.size rfl ?_
  intro g cap' w' hown hg _ hgl
  have hgs := hg.size
  have hoth : ∀ j, V.ownBlock = some j → ∃ cs T, W.heap[j]? = some (.cells cs T (0, 0)) ∧ T ≠ 3 ∧ T ≠ 22 := fun j e => by
    obtain ⟨cs, hc⟩ := row_typed h0 e
    exact ⟨cs, _, hc, by decide, by decide⟩
  refine hK g cap' w' ⟨_, hown, fun j e => by cases e; exact hgl, fun i hi' => ?_⟩ hg (fun j e => ⟨(h0.lt j e).1, (h0.lt j e).2, h1 j e⟩) (by omega)
  by_cases e : i = k
  · subst e
    refine ⟨c, fun j hj => ?_, (hel.other hg hoth).more (Nat.le_refl _) (by omega) (Nat.le_refl _)⟩
    rw [List.getElem?_append_right (by rw [h0.1]; omega), h0.1, show i * 5 + j - i * 5 = j by omega]
    have : j = 0 ∨ j = 1 ∨ j = 2 ∨ j = 3 ∨ j = 4 := by omega
    rcases this with rfl | rfl | rfl | rfl | rfl <;> rfl
  · obtain ⟨c', a', b'⟩ := h2 i (by omega)
    refine ⟨c', fun j hj => ?_, (b'.other hg hoth).more (Nat.le_refl _) (by omega) (Nat.le_refl _)⟩
    rw [List.getElem?_append_left (by rw [h0.1]; omega)]
    exact a' j hj

set_option maxRecDepth 100000 in
set_option maxHeartbeats 800000 in
/-- The append of one list. -/
theorem wp_el1 {o : Oper} {a : Act} {K : Act → World → Prop} {Q : Exit → Act → World → Prop} (s x : Operand)
    (ho : o.op = .call { callee := .builtin .append, args := #[s, x], argTypes := #[88, 88] })
    (h : EL W lo hi V k N) (hlo : lo ≤ W.heap.size) (hs : a.eval s = V) {H : Nat} (hx : a.eval x = .slice (some ⟨H, 0, none⟩) 1 1) {U : Value} {m : Nat} {T' : TypeId} (hnew : W.heap[H]? = some (.cells #[U] T' (0, 0))) (hel : TI W lo hi U m) (hm : m ≤ N) (hk : k ≤ 1048576)
    (hK : ∀ g cap' w', EL w' lo w'.heap.size (.slice (some ⟨g, 0, none⟩) (k + 1) cap') (k + 1) N → W.grownBy w' V.ownBlock → (∀ j, V.ownBlock = some j → lo ≤ j ∧ j < W.heap.size ∧ j < hi ∧ ∃ cs, W.heap[j]? = some (.cells cs 22 (0, 0))) → hi ≤ w'.heap.size → K (a.put o.dst (.slice (some ⟨g, 0, none⟩) (k + 1) cap')) w') (hhi : hi ≤ W.heap.size) :
    o.wp Try.prog a W K Q := by
  obtain ⟨i0, hi0, hz0, hz1, hz2⟩ := info_parts Try.infoIS
  obtain ⟨xs, h0, h1, h2⟩ := h
  have hone : ∀ u ∈ [U], u.oneCell' = true := by
    obtain ⟨_, _, e1⟩ := hel.head
    intro u hu
    simp only [List.mem_singleton] at hu
    subst hu
    rw [e1]; rfl
  refine wp_append_lies _ s x 88 ho lo 22 i0 _ 1 _ Try.underlying88 hi0 hz0 hz1 hz2 rfl (by omega) V k _ hs h0 ⟨H, 0, none⟩ 1 1 [U] hx (by rfl)
    (World.news_of_block hnew) hone (by omega) (by unfold maxLen; omega) (by omega) hlo W.heap.size rfl ?_
  intro g cap' w' hown hg _ hgl
  have hgs := hg.size
  have hoth : ∀ j, V.ownBlock = some j → ∃ cs T, W.heap[j]? = some (.cells cs T (0, 0)) ∧ T ≠ 3 := fun j e => by
    obtain ⟨cs, hc⟩ := row_typed h0 e
    exact ⟨cs, _, hc, by decide⟩
  refine hK g cap' w' ⟨_, hown, fun j e => by cases e; exact hgl, fun i hi' => ?_⟩ hg (fun j e => ⟨(h0.lt j e).1, (h0.lt j e).2, h1 j e, row_typed h0 e⟩) (by omega)
  by_cases e : i = k
  · subst e
    refine ⟨U, m, ?_, hm, (hel.other hg hoth).more (Nat.le_refl _) (by omega)⟩
    rw [List.getElem?_append_right (by rw [h0.1]; omega), h0.1]
    simp
  · obtain ⟨U', m', a', b', c'⟩ := h2 i (by omega)
    refine ⟨U', m', ?_, b', (c'.other hg hoth).more (Nat.le_refl _) (by omega)⟩
    rw [List.getElem?_append_left (by rw [h0.1]; omega)]
    exact a'

/-- A copy of ints that came in. -/
theorem run_cpI (W : World) {B0 : Nat} {v U : Value} {m : Nat} {l1 h1 : Nat} (hown : TS W B0 3 1 v 0) (hr : TI W l1 h1 U m) (hB : B0 ≤ W.heap.size) (hm : m ≤ 1048576) :
    ∃ v' w', (Builtin.append_ #[22, 22] 22 #[v, U]).run Try.prog W = .ok v' w' ∧ TS w' B0 3 1 v' m ∧ W.grownBy w' v.ownBlock := by
  obtain ⟨i0, hi, hz0, hz1, hz2⟩ := info_parts Try.infoInt
  obtain ⟨xs, h0, hl, h2⟩ := hown
  obtain ⟨⟨ys, k0, kl, k2⟩, k3⟩ := hr
  rcases id k0.2 with ⟨rfl, rfl⟩ | ⟨g, cap, cur, rfl, _⟩
  · exact ⟨v, W, run_append_owned_none (P := Try.prog) (w := W) B0 22 22 3 i0 1 Try.underlying22 hi v 0 _ h0, ⟨xs, h0, hl, h2⟩, ⟨rfl, rfl, rfl, Nat.le_refl _, fun _ _ _ => rfl⟩⟩
  · obtain ⟨v', w', a1, a2, a3, _, _⟩ := run_append_own_at (P := Try.prog) W B0 22 22 3 i0 _ 1 8 Try.underlying22 hi hz0 hz1 hz2 rfl (by omega) v 0 _ h0 ⟨g, 0, none⟩ m cap ys kl (k0.cells rfl) (fun u hu => by obtain ⟨z, rfl⟩ := k2 u hu; rfl) (by unfold maxLen; omega) (by omega) hB
    rw [Nat.zero_add] at a2
    refine ⟨v', w', a1, ⟨xs ++ ys, a2, a2.1, fun u hu => ?_⟩, a3⟩
    rcases List.mem_append.1 hu with hu | hu
    · exact h2 u hu
    · exact k2 u hu

/-- What such rules read as. -/
theorem EL.rd (h : EL w lo hi V n N) : ∃ A cap r, V = .slice A n cap ∧ (∀ i, i < n → (r i : Lst).n ≤ N) ∧ RdL w w.heap.size A n r := by
  obtain ⟨A, cap, rfl⟩ := h.head
  obtain ⟨xs, h0, h1, h2⟩ := h
  have hall : ∀ i, ∃ q : Lst, i < n → q.n ≤ N ∧ ∃ U Ai ci, xs[i]? = some U ∧ U = .slice Ai q.n ci ∧ RdI w w.heap.size Ai q.n q.x := fun i => by
    by_cases hlt : i < n
    · obtain ⟨U, m, a, b, c⟩ := h2 i hlt
      obtain ⟨Ai, ci, v, e, hr⟩ := c.rd
      exact ⟨⟨m, v⟩, fun _ => ⟨b, U, Ai, ci, a, e, hr⟩⟩
    · exact ⟨⟨0, fun _ => 0⟩, fun h => absurd h hlt⟩
  refine ⟨A, cap, fun i => (hall i).choose, rfl, fun i hi' => ((hall i).choose_spec hi').1, fun hn => ?_⟩
  rcases id h0.2 with ⟨_, hk⟩ | ⟨g, cap, cur, e, hg, hh, _⟩
  · omega
  · cases e
    refine ⟨g, 0, rfl, (h0.lt g rfl).2, fun i hi' => ?_⟩
    obtain ⟨_, U, Ai, ci, a, b, c⟩ := (hall i).choose_spec hi'
    have := h0.cells rfl _ _ a
    rw [Go.WideShapes.add_plain] at this
    exact ⟨Ai, ci, this.trans (by rw [b]), c⟩
theorem ER.rd (h : ER w lo hi V n N) : ∃ A cap q, V = .slice A n cap ∧ (∀ i, i < n → (q i : Rul).fit N) ∧ RdRs w w.heap.size A n q := by
  obtain ⟨A, cap, rfl⟩ := h.head
  obtain ⟨xs, h0, h1, h2⟩ := h
  have hall : ∀ i, ∃ q : Rul, i < n → q.fit N ∧ ∃ (c : Nat → Value) (Av : Option Addr) (cv : Nat) (Ac : Option Addr) (cc : Nat) (Ar : Option Addr) (cr : Nat), (∀ j, j < 5 → xs[i * 5 + j]? = some (c j)) ∧ c 0 = .int .i64 q.k ∧ c 1 = .slice Av q.v.n cv ∧ c 2 = .slice Ac q.c.n cc ∧ c 3 = .int .i64 q.bd ∧ c 4 = .slice Ar q.n cr ∧ RdI w w.heap.size Av q.v.n q.v.x ∧ RdI w w.heap.size Ac q.c.n q.c.x ∧ RdL w w.heap.size Ar q.n q.r := fun i => by
    by_cases hlt : i < n
    · obtain ⟨c, a, k, bd, nv, nc, nr, e0, e3, b1, b2, b3, t1, t2, t4⟩ := h2 i hlt
      obtain ⟨Av, cv, v, ev, hv⟩ := t1.rd
      obtain ⟨Ac, cc, x, ec, hc⟩ := t2.rd
      obtain ⟨Ar, cr, r, er, hb, hr⟩ := t4.rd
      exact ⟨⟨k, ⟨nv, v⟩, ⟨nc, x⟩, bd, nr, r⟩, fun _ => ⟨⟨b1, b2, b3, hb⟩, c, Av, cv, Ac, cc, Ar, cr, a, e0, ev, ec, e3, er, hv, hc, hr⟩⟩
    · exact ⟨⟨0, ⟨0, fun _ => 0⟩, ⟨0, fun _ => 0⟩, 0, 0, fun _ => ⟨0, fun _ => 0⟩⟩, fun h => absurd h hlt⟩
  refine ⟨A, cap, fun i => (hall i).choose, rfl, fun i hi' => ((hall i).choose_spec hi').1, fun hn => ?_⟩
  rcases id h0.2 with ⟨_, hk⟩ | ⟨g, cap, cur, e, hg, hh, _⟩
  · omega
  · cases e
    refine ⟨g, 0, rfl, (h0.lt g rfl).2, fun i hi' => ?_⟩
    obtain ⟨_, c, Av, cv, Ac, cc, Ar, cr, a, e0, e1, e2, e3, e4, hv, hc, hr⟩ := (hall i).choose_spec hi'
    have key : ∀ j, j < 5 → w.cell? ⟨g, 0 + (i * 5 + j), none⟩ = some (c j) := fun j hj => by
      have := h0.cells rfl _ _ (a j hj)
      rwa [Go.WideShapes.add_plain] at this
    exact ⟨Av, cv, Ac, cc, Ar, cr, by rw [← e0]; exact key 0 (by omega), by rw [← e1]; exact key 1 (by omega), by rw [← e2]; exact key 2 (by omega), by rw [← e3]; exact key 3 (by omega), by rw [← e4]; exact key 4 (by omega), hv, hc, hr⟩
end
end Go.Proofs.Ytafiikfaeomhpaa
