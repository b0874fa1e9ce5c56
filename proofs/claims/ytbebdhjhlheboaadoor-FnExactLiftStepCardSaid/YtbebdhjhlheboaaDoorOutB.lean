/- The append of one term to the first field of a struct that a loop builds (no claim of its own). Conditions: as each theorem states. -/
import Derived.Test.YtbebdhjhlheboaaDoorOutA
namespace Go.Proofs.YtbebdhjhlheboaaDoor
open Go.ChangeShapes Go.WideShapes Go.ChangeAt Go.RowKit

theorem row_below {w w' : World} {B : Nat} {e : TypeId} {s : Nat} {v : Value} {n : Nat} {xs : List Value} (h : w.ownsRow B e s v n xs) (hb : Below w.heap.size w w') : w'.ownsRow B e s v n xs := by
  refine ⟨h.1, ?_⟩
  rcases h.2 with hh | ⟨g, cap, cur, e1, hg, hh, hr⟩
  · exact .inl hh
  · refine .inr ⟨g, cap, cur, e1, hg, (hb.block g ?_).trans hh, hr⟩
    rcases Nat.lt_or_ge g w.heap.size with hlt | hge
    · exact hlt
    · rw [Array.getElem?_eq_none hge] at hh; cases hh

section
variable {w : World} {O : Nat} {ks : List (Nat × Nat × Value)} {c l : Nat → Int} {k : Nat} {ov : Value} {wr w1 wq : World}
theorem OutAt.below (h : OutAt w O ks c l k ov wr) (hb : Below wr.heap.size wr wq) : OutAt w O ks c l k ov wq :=
  ⟨h.o0.below hb, row_below h.own hb, fun x hx => ⟨(h.keep x hx).1, (h.keep x hx).2.below hb⟩, bl_trans h.bel hb, h.hO⟩
theorem OutAt.at_ (h : OutAt w O ks c l k ov wr) {j o : Nat} {v : Value} (hx : (j, o, v) ∈ ks) : Cel wr j o v := (h.keep _ hx).2

set_option maxRecDepth 100000 in
set_option maxHeartbeats 800000 in
theorem wp_app1 {o : Oper} {a : Act} {K : Act → World → Prop} {Q : Exit → Act → World → Prop} (s x : Operand)
    (ho : o.op = .call { callee := .builtin .append, args := #[s, x], argTypes := #[29, 29] })
    (h : OutAt w O ks c l k ov wq) (hs : a.eval s = ov) {H : Nat} (hH : wq.heap.size = H) (hx : a.eval x = .slice (some ⟨H, 0, none⟩) 1 1) {X Y : Int} (hX : c k = X) (hY : l k = Y) (hk : k ≤ 1048576)
    (hK : ∀ g cap w', w'.cell? ⟨O, 0, none⟩ = some ov → w'.frozen? ⟨O, 0, none⟩ = false → Out w O ks c l (k + 1) (w'.setCell ⟨O, 0, none⟩ (.slice (some ⟨g, 0, none⟩) (k + 1) cap)) → K (a.put o.dst (.slice (some ⟨g, 0, none⟩) (k + 1) cap)) w') :
    o.wp Tryd.prog a (wq.alloc (.cells #[.int .i64 X, .int .i64 Y] 60)) K Q := by
  subst hH
  obtain ⟨i0, hi, hz0, hz1, hz2⟩ := info_parts Tryd.infoTerm
  have hq := bl_alloc (Below.refl wq.heap.size wq) (.cells #[.int .i64 X, .int .i64 Y] 60)
  refine wp_append_lies _ s x 29 ho (O + 1) 60 i0 _ 2 16 Tryd.underlying29 hi hz0 hz1 hz2 rfl (by omega) ov k _ hs (h.own.alloc _) ⟨wq.heap.size, 0, none⟩ 1 1 [.int .i64 X, .int .i64 Y] hx (by rfl)
    (World.news_of_block (heap_alloc_new wq _)) (by simp [Value.oneCell']) (by omega) (by unfold maxLen; omega) (by omega) ?_ (wq.heap.size + 1) (by simp) ?_
  · have := h.o0.1
    have := World.block_lt_of_cell? wq _ this
    simp at this ⊢
    omega
  · intro g cap w' hown hg _ _
    exact hK g cap w' (h.t0 hq hg) (h.u0 hq hg) (h.step hq hX hY hown hg)
set_option maxRecDepth 100000 in
set_option maxHeartbeats 800000 in
theorem step_app1 {ops : Array Oper} {o : Oper} {a : Act} {K : Act → World → Prop} {Q : Exit → Act → World → Prop} {E : Prop} (hgd : o.guard = none) (s x : Operand)
    (ho : o.op = .call { callee := .builtin .append, args := #[s, x], argTypes := #[29, 29] })
    (h : OutAt w O ks c l k ov wq) (hs : a.eval s = ov) {H : Nat} (hH : wq.heap.size = H) (hx : a.eval x = .slice (some ⟨H, 0, none⟩) 1 1) {X Y : Int} (hX : c k = X) (hY : l k = Y) (hk : k ≤ 1048576)
    (hK : ∀ g cap w', w'.cell? ⟨O, 0, none⟩ = some ov → w'.frozen? ⟨O, 0, none⟩ = false → Out w O ks c l (k + 1) (w'.setCell ⟨O, 0, none⟩ (.slice (some ⟨g, 0, none⟩) (k + 1) cap)) → K (a.put o.dst (.slice (some ⟨g, 0, none⟩) (k + 1) cap)) w') :
    if Region.wanted o (yielded ops a.tmps) = true then Oper.wp Tryd.prog o a (wq.alloc (.cells #[.int .i64 X, .int .i64 Y] 60)).drew K Q else E := by
  subst hH
  obtain ⟨i0, hi, hz0, hz1, hz2⟩ := info_parts Tryd.infoTerm
  have hq := (bl_alloc (Below.refl wq.heap.size wq) (.cells #[.int .i64 X, .int .i64 Y] 60)).drew
  refine step_append_lies _ hgd s x 29 ho (O + 1) 60 i0 _ 2 16 Tryd.underlying29 hi hz0 hz1 hz2 rfl (by omega) ov k _ hs ((h.own.alloc _).drew) ⟨wq.heap.size, 0, none⟩ 1 1 [.int .i64 X, .int .i64 Y] hx (by rfl)
    (World.news_of_block (heap_alloc_new wq _)) (by simp [Value.oneCell']) (by omega) (by unfold maxLen; omega) (by omega) ?_ (wq.heap.size + 1) (by simp) ?_
  · have := h.o0.1
    have := World.block_lt_of_cell? wq _ this
    simp at this ⊢
    omega
  · intro g cap w' hown hg _ _
    exact hK g cap w' (h.t0 hq hg) (h.u0 hq hg) (h.step hq hX hY hown hg)
end
end Go.Proofs.YtbebdhjhlheboaaDoor
