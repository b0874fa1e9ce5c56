/- The draw of a constraint that may be made invalid (no claim of its own). Conditions: as each theorem states. -/
import Derived.Test.YtfkgcniphgigeaaDrwH
namespace Go.Proofs.Ytfkgcniphgigeaa
open Go.ChangeShapes Go.WideShapes Go.ChangeAt Go.RowKit

section
variable {W : World} {lo k : Nat} {ov : Value}
set_option maxRecDepth 100000 in
set_option maxHeartbeats 800000 in
/-- The append of one term to a slice that the draw has made, and where it then lies. -/
theorem wp_ts3 {o : Oper} {a : Act} {K : Act → World → Prop} {Q : Exit → Act → World → Prop} (s x : Operand)
    (ho : o.op = .call { callee := .builtin .append, args := #[s, x], argTypes := #[23, 23] })
    (h : TS W lo 40 2 ov k) (hlo : lo ≤ W.heap.size) (hs : a.eval s = ov) {H : Nat} (hx : a.eval x = .slice (some ⟨H, 0, none⟩) 1 1) {X Y : Int} (hnew : W.heap[H]? = some (.cells #[.int .i64 X, .int .i64 Y] 40 (0, 0))) (hk : k ≤ 1048576)
    (hK : ∀ g cap w', TS w' lo 40 2 (.slice (some ⟨g, 0, none⟩) (k + 1) cap) (k + 1) → W.grownBy w' ov.ownBlock → (ov.ownBlock = some g ∨ g = W.heap.size) → K (a.put o.dst (.slice (some ⟨g, 0, none⟩) (k + 1) cap)) w') :
    o.wp Try.prog a W K Q := by
  obtain ⟨i0, hi, hz0, hz1, hz2⟩ := info_parts Try.infoTerm
  obtain ⟨xs, h0, h1, h2⟩ := h
  refine wp_append_lies _ s x 23 ho lo 40 i0 _ 2 16 Try.underlying23 hi hz0 hz1 hz2 rfl (by omega) ov k _ hs h0 ⟨H, 0, none⟩ 1 1 [.int .i64 X, .int .i64 Y] hx (by rfl)
    (World.news_of_block hnew) (by simp [Value.oneCell']) (by omega) (by unfold maxLen; omega) (by omega) hlo W.heap.size rfl ?_
  intro g cap w' hown hg hor _
  refine hK g cap w' ⟨_, hown, by simp; omega, fun u hu => ?_⟩ hg hor
  rcases List.mem_append.1 hu with hu | hu
  · exact h2 u hu
  · simp only [List.mem_cons, List.not_mem_nil, or_false] at hu
    rcases hu with rfl | rfl
    · exact ⟨X, rfl⟩
    · exact ⟨Y, rfl⟩
end

/-- A store into a block that is not the slice's own. -/
theorem fe_far {w : World} {lo k : Nat} {A : Option Addr} (h : FE w lo A k) {p : Addr} (hp : ∀ G, A = some ⟨G, 0, none⟩ → ¬ p.block = G) (u : Value) : FE (w.setCell p u) lo A k := by
  obtain ⟨c, l, h⟩ := h
  rcases h with h | ⟨G, e, hG, h⟩
  · exact ⟨c, l, .inl h⟩
  · exact ⟨c, l, .inr ⟨G, e, hG, h.at_ (Below.heap_setCell w p u G (fun e' => hp G e e'.symm))⟩⟩

end Go.Proofs.Ytfkgcniphgigeaa
