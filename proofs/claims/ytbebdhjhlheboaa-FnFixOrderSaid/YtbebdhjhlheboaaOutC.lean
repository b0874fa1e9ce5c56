/- The append of one term inside a region that draws its order, what lies below it kept (no claim of its own). Conditions: as each theorem states. -/
import Derived.Test.YtbebdhjhlheboaaOutB
import Derived.Deep.RegionHeldLaw
namespace Go.Proofs.Ytbebdhjhlheboaa
open Go.ChangeShapes Go.WideShapes Go.ChangeAt Go.RowKit
section
variable {w : World} {O : Nat} {ks : List (Nat × Nat × Value)} {c l : Nat → Int} {k : Nat} {ov : Value} {wr w1 wq : World}
set_option maxRecDepth 100000 in
set_option maxHeartbeats 800000 in
theorem step_app2 {ops : Array Oper} {o : Oper} {a : Act} {K : Act → World → Prop} {Q : Exit → Act → World → Prop} {E : Prop} (hgd : o.guard = none) (s x : Operand)
    (ho : o.op = .call { callee := .builtin .append, args := #[s, x], argTypes := #[53, 53] })
    (h : OutAt w O ks c l k ov wq) (hs : a.eval s = ov) {H : Nat} (hH : wq.heap.size = H) (hx : a.eval x = .slice (some ⟨H, 0, none⟩) 1 1) {X Y : Int} (hX : c k = X) (hY : l k = Y) (hk : k ≤ 1048576)
    (hK : ∀ g cap w', w'.cell? ⟨O, 0, none⟩ = some ov → w'.frozen? ⟨O, 0, none⟩ = false → Out w O ks c l (k + 1) (w'.setCell ⟨O, 0, none⟩ (.slice (some ⟨g, 0, none⟩) (k + 1) cap)) → (∀ j p v, j ≤ O → wq.cell? ⟨j, p, none⟩ = some v → w'.cell? ⟨j, p, none⟩ = some v) → K (a.put o.dst (.slice (some ⟨g, 0, none⟩) (k + 1) cap)) w') :
    if Region.wanted o (yielded ops a.tmps) = true then Oper.wp Try.prog o a (wq.alloc (.cells #[.int .i64 X, .int .i64 Y] 114)).drew K Q else E := by
  subst hH
  obtain ⟨i0, hi, hz0, hz1, hz2⟩ := info_parts Try.infoTerm
  have hq := (bl_alloc (Below.refl wq.heap.size wq) (.cells #[.int .i64 X, .int .i64 Y] 114)).drew
  refine step_append_lies _ hgd s x 53 ho (O + 1) 114 i0 _ 2 16 Try.underlying53 hi hz0 hz1 hz2 rfl (by omega) ov k _ hs ((h.own.alloc _).drew) ⟨wq.heap.size, 0, none⟩ 1 1 [.int .i64 X, .int .i64 Y] hx (by rfl)
    (World.news_of_block (heap_alloc_new wq _)) (by simp [Value.oneCell']) (by omega) (by unfold maxLen; omega) (by omega) ?_ (wq.heap.size + 1) (by simp) ?_
  · have := h.o0.1
    have := World.block_lt_of_cell? wq _ this
    simp at this ⊢
    omega
  · intro g cap w' hown hg _ _
    exact hK g cap w' (h.t0 hq hg) (h.u0 hq hg) (h.step hq hX hY hown hg) (fun j p v hj hc => hg.cell (a := ⟨j, p, none⟩) (kc hq hc) (h.far hj))
theorem alloc_eq {W : World} {o : Obj} {H : Nat} (h : W.heap.size = H) : (W.alloc o).heap[H]? = some o := by subst h; exact heap_alloc_new W o

set_option maxRecDepth 100000 in
set_option maxHeartbeats 800000 in
theorem wp_appG {o : Oper} {a : Act} {K : Act → World → Prop} {Q : Exit → Act → World → Prop} {W : World} (s x : Operand)
    (ho : o.op = .call { callee := .builtin .append, args := #[s, x], argTypes := #[53, 53] })
    (h : OutAt w O ks c l k ov wq) (hq : Below wq.heap.size wq W) (hs : a.eval s = ov) {H : Nat} (hx : a.eval x = .slice (some ⟨H, 0, none⟩) 1 1) {X Y : Int} (hnew : W.heap[H]? = some (.cells #[.int .i64 X, .int .i64 Y] 114 (0, 0)))
    (hX : c k = X) (hY : l k = Y) (hk : k ≤ 1048576)
    (hK : ∀ g cap w', w'.cell? ⟨O, 0, none⟩ = some ov → w'.frozen? ⟨O, 0, none⟩ = false → Out w O ks c l (k + 1) (w'.setCell ⟨O, 0, none⟩ (.slice (some ⟨g, 0, none⟩) (k + 1) cap)) → K (a.put o.dst (.slice (some ⟨g, 0, none⟩) (k + 1) cap)) w') :
    o.wp Try.prog a W K Q := by
  obtain ⟨i0, hi, hz0, hz1, hz2⟩ := info_parts Try.infoTerm
  refine wp_append_lies _ s x 53 ho (O + 1) 114 i0 _ 2 16 Try.underlying53 hi hz0 hz1 hz2 rfl (by omega) ov k _ hs (row_below h.own hq) ⟨H, 0, none⟩ 1 1 [.int .i64 X, .int .i64 Y] hx (by rfl)
    (World.news_of_block hnew) (by simp [Value.oneCell']) (by omega) (by unfold maxLen; omega) (by omega) ?_ W.heap.size rfl ?_
  · have h1 : O < wq.heap.size := World.block_lt_of_cell? wq ⟨O, 0, none⟩ h.o0.1
    have h2 := hq.size
    omega
  · intro g cap w' hown hg _ _
    exact hK g cap w' (h.t0 hq hg) (h.u0 hq hg) (h.step hq hX hY hown hg)

set_option maxRecDepth 100000 in
set_option maxHeartbeats 800000 in
theorem step_appG {ops : Array Oper} {o : Oper} {a : Act} {K : Act → World → Prop} {Q : Exit → Act → World → Prop} {E : Prop} {W : World} (hgd : o.guard = none) (s x : Operand)
    (ho : o.op = .call { callee := .builtin .append, args := #[s, x], argTypes := #[53, 53] })
    (h : OutAt w O ks c l k ov wq) (hq : Below wq.heap.size wq W) (hs : a.eval s = ov) {H : Nat} (hx : a.eval x = .slice (some ⟨H, 0, none⟩) 1 1) {X Y : Int} (hnew : W.heap[H]? = some (.cells #[.int .i64 X, .int .i64 Y] 114 (0, 0)))
    (hX : c k = X) (hY : l k = Y) (hk : k ≤ 1048576)
    (hK : ∀ g cap w', w'.cell? ⟨O, 0, none⟩ = some ov → w'.frozen? ⟨O, 0, none⟩ = false → Out w O ks c l (k + 1) (w'.setCell ⟨O, 0, none⟩ (.slice (some ⟨g, 0, none⟩) (k + 1) cap)) → K (a.put o.dst (.slice (some ⟨g, 0, none⟩) (k + 1) cap)) w') :
    if Region.wanted o (yielded ops a.tmps) = true then Oper.wp Try.prog o a W K Q else E := by
  have hw : Region.wanted o (yielded ops a.tmps) = true := by simp [Region.wanted, hgd]
  rw [if_pos hw]
  exact wp_appG s x ho h hq hs hx hnew hX hY hk hK

/-- The second field of the struct written. -/
theorem OutAt.setB {ks0 : List (Nat × Nat × Value)} {u v : Value} (h0 : ∀ x ∈ ks0, x.1 < O) (h : OutAt w O ((O, 1, u) :: ks0) c l k ov wr) : OutAt w O ((O, 1, v) :: ks0) c l k ov (wr.setCell ⟨O, 1, none⟩ v) := by
  have hO := h.hO
  refine ⟨h.o0.set (by omega), ownsRow_setCell_below h.own (by show O < O + 1; omega) _, fun x hx => ?_, h.bel.setCell (by show w.heap.size ≤ O; omega) _, hO⟩
  rcases List.mem_cons.1 hx with rfl | hx
  · exact ⟨.inr ⟨rfl, by simp⟩, (h.keep (O, 1, u) (List.mem_cons_self ..)).2.put⟩
  · obtain ⟨h1, h2⟩ := h.keep x (List.mem_cons_of_mem _ hx)
    have := h0 x hx
    exact ⟨h1, h2.set (by omega)⟩
end
end Go.Proofs.Ytbebdhjhlheboaa
