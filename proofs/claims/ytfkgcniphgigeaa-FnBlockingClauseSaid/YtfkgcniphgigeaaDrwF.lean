/- The draw of a constraint (no claim of its own). Conditions: as each theorem states. -/
import Derived.Test.YtfkgcniphgigeaaDrwE
import Derived.Test.YtfkgcniphgigeaaSumD
namespace Go.Proofs.Ytfkgcniphgigeaa
open Go.ChangeShapes Go.WideShapes Go.ChangeAt Go.RowKit

section
variable {w w1 wr wq W : World} {R lo k s : Nat} {ov : Value} {T : TypeId} {A : Option Addr}
theorem TS.lt2 (h : TS w lo T s ov k) : ∀ j, ov.ownBlock = some j → lo ≤ j ∧ j < w.heap.size := fun j e => by
  obtain ⟨xs, h0, h1, h2⟩ := h
  exact h0.lt j e
theorem TS.setne (h : TS w lo T s ov k) {p : Addr} (hp : ∀ j, ov.ownBlock = some j → j ≠ p.block) (u : Value) : TS (w.setCell p u) lo T s ov k := by
  obtain ⟨xs, h0, h1, h2⟩ := h
  refine ⟨xs, ⟨h0.1, ?_⟩, h1, h2⟩
  rcases h0.2 with hh | ⟨g, cap, cur, e1, hg, hh, hr⟩
  · exact .inl hh
  · exact .inr ⟨g, cap, cur, e1, hg, (Below.heap_setCell w p u g (hp g (by rw [e1]; rfl))).trans hh, hr⟩
theorem Cel.grow {j o : Nat} {v : Value} (hc : Cel w j o v) (hg : w.grownBy w1 ov.ownBlock) (hne : ∀ b, ov.ownBlock = some b → b ≠ j) : Cel w1 j o v := by
  have hlt : j < w.heap.size := World.block_lt_of_cell? w ⟨j, o, none⟩ hc.1
  have hx : some j ≠ ov.ownBlock := fun e => hne j e.symm rfl
  exact ⟨hg.cell (a := ⟨j, o, none⟩) hc.1 hx, (hg.frozen_far ⟨j, o, none⟩ hlt hx).trans hc.2⟩
set_option maxRecDepth 100000 in
set_option maxHeartbeats 800000 in
/-- The append of one term to a slice that the draw has made. -/
theorem wp_ts2 {o : Oper} {a : Act} {K : Act → World → Prop} {Q : Exit → Act → World → Prop} (s x : Operand)
    (ho : o.op = .call { callee := .builtin .append, args := #[s, x], argTypes := #[23, 23] })
    (h : TS W lo 40 2 ov k) (hlo : lo ≤ W.heap.size) (hs : a.eval s = ov) {H : Nat} (hx : a.eval x = .slice (some ⟨H, 0, none⟩) 1 1) {X Y : Int} (hnew : W.heap[H]? = some (.cells #[.int .i64 X, .int .i64 Y] 40 (0, 0))) (hk : k ≤ 1048576)
    (hK : ∀ g cap w', TS w' lo 40 2 (.slice (some ⟨g, 0, none⟩) (k + 1) cap) (k + 1) → W.grownBy w' ov.ownBlock → K (a.put o.dst (.slice (some ⟨g, 0, none⟩) (k + 1) cap)) w') :
    o.wp Try.prog a W K Q := by
  obtain ⟨i0, hi, hz0, hz1, hz2⟩ := info_parts Try.infoTerm
  obtain ⟨xs, h0, h1, h2⟩ := h
  refine wp_append_lies _ s x 23 ho lo 40 i0 _ 2 16 Try.underlying23 hi hz0 hz1 hz2 rfl (by omega) ov k _ hs h0 ⟨H, 0, none⟩ 1 1 [.int .i64 X, .int .i64 Y] hx (by rfl)
    (World.news_of_block hnew) (by simp [Value.oneCell']) (by omega) (by unfold maxLen; omega) (by omega) hlo W.heap.size rfl ?_
  intro g cap w' hown hg _ _
  refine hK g cap w' ⟨_, hown, by simp; omega, fun u hu => ?_⟩ hg
  rcases List.mem_append.1 hu with hu | hu
  · exact h2 u hu
  · simp only [List.mem_cons, List.not_mem_nil, or_false] at hu
    rcases hu with rfl | rfl
    · exact ⟨X, rfl⟩
    · exact ⟨Y, rfl⟩

/-- A slice of terms that the draw has made, whatever they are. -/
def FE (w : World) (lo : Nat) (A : Option Addr) (k : Nat) : Prop := ∃ c l, Frs w lo A k c l
theorem FE.bel (h : FE w lo A k) (hb : Below w.heap.size w w1) : FE w1 lo A k := by
  obtain ⟨c, l, h⟩ := h
  exact ⟨c, l, h.below hb⟩
theorem FE.gr (h : FE w lo A k) (hg : Gr R w w1) (hR : R < lo) : FE w1 lo A k := by
  obtain ⟨c, l, h⟩ := h
  rcases h with h | ⟨G, e, hG, h⟩
  · exact ⟨c, l, .inl h⟩
  · exact ⟨c, l, .inr ⟨G, e, hG, h.at_ (hg.block G h.lt (by intro e; cases e; omega))⟩⟩
theorem FE.set_ (h : FE w lo A k) {p : Addr} (hp : p.block < lo) (u : Value) : FE (w.setCell p u) lo A k := by
  obtain ⟨c, l, h⟩ := h
  rcases h with h | ⟨G, e, hG, h⟩
  · exact ⟨c, l, .inl h⟩
  · exact ⟨c, l, .inr ⟨G, e, hG, h.at_ (Below.heap_setCell w p u G (by omega))⟩⟩
theorem FE.more (h : FE w lo A k) {lo' : Nat} (hl : lo' ≤ lo) : FE w lo' A k := by
  obtain ⟨c, l, h⟩ := h
  exact ⟨c, l, h.more hl⟩
theorem FE.open (h : FE w lo A k) (hk : 0 < k) : ∃ G, A = some ⟨G, 0, none⟩ ∧ lo ≤ G ∧ G < w.heap.size ∧ (∀ j, j < k * 2 → ∃ u, w.cell? ⟨G, j, none⟩ = some u) ∧ ∀ j, w.frozen? ⟨G, j, none⟩ = false := by
  obtain ⟨c, l, h⟩ := h
  rcases h with h | ⟨G, e, hG, h⟩
  · omega
  · exact ⟨G, e, hG, h.lt, fun j hj => h.cell hj, fun j => h.frozen j⟩
theorem FE.store {G : Nat} (h : FE w lo (some ⟨G, 0, none⟩) k) (j : Nat) (z : Int) : FE (w.setCell ⟨G, j, none⟩ (.int .i64 z)) lo (some ⟨G, 0, none⟩) k := by
  obtain ⟨c, l, h⟩ := h
  rcases h with h | ⟨G', e, hG, cs, hh, h1, h2⟩
  · exact ⟨c, l, .inl h⟩
  · cases e
    refine ⟨fun i => if i * 2 = j then z else c i, fun i => if i * 2 + 1 = j then z else l i, .inr ⟨G, rfl, hG, cs.setIfInBounds j (.int .i64 z), by simp [World.setCell, Array.getElem?_modify, hh], by simp [h1], fun i hi => ?_⟩⟩
    obtain ⟨a, b⟩ := h2 i hi
    constructor
    · rw [Array.getElem?_setIfInBounds]
      by_cases e : j = i * 2
      · rw [if_pos e, if_pos (by omega)]
        simp [e]
      · rw [if_neg e, a]
        simp [show ¬ i * 2 = j by omega]
    · rw [Array.getElem?_setIfInBounds]
      by_cases e : j = i * 2 + 1
      · rw [if_pos e, if_pos (by omega)]
        simp [e]
      · rw [if_neg e, b]
        simp [show ¬ i * 2 + 1 = j by omega]
theorem TS.fe (h : TS w lo 40 2 ov k) : ∃ A cap, ov = .slice A k cap ∧ FE w lo A k := by
  obtain ⟨A, cap, c, l, e, h, _⟩ := h.terms
  exact ⟨A, cap, e, c, l, h⟩
end

/-- A slice that nothing lies behind has no room; none is longer than its room. -/
def CapOk (A : Option Addr) (k cap : Nat) : Prop := (A = none → cap = 0) ∧ k ≤ cap
theorem TS.capOk {w : World} {lo k cap : Nat} {A : Option Addr} (h : TS w lo 40 2 (.slice A k cap) k) : CapOk A k cap := by
  refine ⟨?_, ?_⟩
  · obtain ⟨_, _, _, _, e, _, h'⟩ := h.terms
    cases e
    exact h'
  · by_cases hk : 0 < k
    · obtain ⟨g, cap', e, hc, _⟩ := h.open hk
      cases e
      exact hc
    · omega

/-- What the draw of a constraint leaves: at most m terms, in new memory. -/
def CDr (w : World) (R K m : Nat) (e : Ending) (w' : World) : Prop := ∃ A k cap bd, e = .returned (.agg #[.slice A k cap, .int .i64 bd]) ∧ k ≤ m ∧ FE w' w.heap.size A k ∧ Gr R w w' ∧ Rdr w' R K ∧ CapOk A k cap

end Go.Proofs.Ytfkgcniphgigeaa
