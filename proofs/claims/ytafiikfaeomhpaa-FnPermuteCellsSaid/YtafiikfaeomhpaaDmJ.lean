/- A store of a rule (no claim of its own). Conditions: as each theorem states. · The copy of a model (no claim of its own). Conditions: as each theorem states. · Values of cells, drawn (no claim of its own). Conditions: as each theorem states. · A copy of a model, sometimes made invalid (no claim of its own). Conditions: as each theorem states. · Draws of models, whole (no claim of its own). Conditions: as each theorem states. -/
import Derived.Test.YtafiikfaeomhpaaDmlE
import Derived.Test.YtafiikfaeomhpaaRgA
import Derived.Deep.RegionHeld3
import Derived.Deep.Cut
namespace Go.Proofs.Ytafiikfaeomhpaa
open Go.ChangeShapes Go.WideShapes Go.ChangeAt Go.RowKit

set_option linter.unusedSimpArgs false in
set_option linter.unusedVariables false in
set_option maxRecDepth 100000 in
set_option maxHeartbeats 800000 in
theorem wp_st5 {o : Oper} {a : Act} {K : Act → World → Prop} {Q : Exit → Act → World → Prop} {W : World} (i j : Nat)
    (ho : o.op = .store 90 (.tmp i) (.tmp j)) (hd : o.dst = none) {p : Nat} {v0 v1 v2 v3 v4 : Value} {T : TypeId} {d0 d1 d2 d3 d4 : Value} (hx : a.eval (.tmp i) = .pointer (some ⟨p, 0, none⟩)) (hy : a.eval (.tmp j) = .agg #[v0, v1, v2, v3, v4])
    (h0 : v0.oneCell' = true) (h1 : v1.oneCell' = true) (h2 : v2.oneCell' = true) (h3 : v3.oneCell' = true) (h4 : v4.oneCell' = true)
    (hh : W.heap[p]? = some (.cells #[d0, d1, d2, d3, d4] T (0, 0)))
    (h : ∀ W5, Cel W5 p 0 v0 → Cel W5 p 1 v1 → Cel W5 p 2 v2 → Cel W5 p 3 v3 → Cel W5 p 4 v4 → W.grownBy W5 (some p) → (∀ lo V m, TS W lo 3 1 V m → TS W5 lo 3 1 V m) → p < W.heap.size → K a W5) (hT : T ≠ 3 := by decide) : o.wp Try.prog a W K Q := by
  have c0 : Cel W p 0 d0 := ⟨(cell_of_row W p 0 _ _ _ hh).trans rfl, by simp [World.frozen?, hh]⟩
  have c1 : Cel W p 1 d1 := ⟨(cell_of_row W p 1 _ _ _ hh).trans rfl, by simp [World.frozen?, hh]⟩
  have c2 : Cel W p 2 d2 := ⟨(cell_of_row W p 2 _ _ _ hh).trans rfl, by simp [World.frozen?, hh]⟩
  have c3 : Cel W p 3 d3 := ⟨(cell_of_row W p 3 _ _ _ hh).trans rfl, by simp [World.frozen?, hh]⟩
  have c4 : Cel W p 4 d4 := ⟨(cell_of_row W p 4 _ _ _ hh).trans rfl, by simp [World.frozen?, hh]⟩
  obtain ⟨c0a, c0b⟩ := c0
  obtain ⟨c1a, c1b⟩ := c1
  obtain ⟨c2a, c2b⟩ := c2
  obtain ⟨c3a, c3b⟩ := c3
  obtain ⟨c4a, c4b⟩ := c4
  unfold Oper.wp execOp
  simp [go_sem] at hx hy
  have r0 := run_store Try.prog W ⟨p, 0, none⟩ v0 .plain h0
  rw [c0a] at r0
  simp only [c0b] at r0
  have k1 := (Cel.set (O' := p) (o' := 0) (u := v0) ⟨c1a, c1b⟩ (by omega))
  have k2 := (Cel.set (O' := p) (o' := 0) (u := v0) ⟨c2a, c2b⟩ (by omega))
  have k3 := (Cel.set (O' := p) (o' := 0) (u := v0) ⟨c3a, c3b⟩ (by omega))
  have k4 := (Cel.set (O' := p) (o' := 0) (u := v0) ⟨c4a, c4b⟩ (by omega))
  have r1 := run_store Try.prog (W.setCell ⟨p, 0, none⟩ v0) ⟨p, 1, none⟩ v1 .plain h1
  rw [k1.1] at r1
  simp only [k1.2] at r1
  have l2 := (Cel.set (O' := p) (o' := 1) (u := v1) k2 (by omega))
  have l3 := (Cel.set (O' := p) (o' := 1) (u := v1) k3 (by omega))
  have l4 := (Cel.set (O' := p) (o' := 1) (u := v1) k4 (by omega))
  have r2 := run_store Try.prog ((W.setCell ⟨p, 0, none⟩ v0).setCell ⟨p, 1, none⟩ v1) ⟨p, 2, none⟩ v2 .plain h2
  rw [l2.1] at r2
  simp only [l2.2] at r2
  have m3 := (Cel.set (O' := p) (o' := 2) (u := v2) l3 (by omega))
  have m4 := (Cel.set (O' := p) (o' := 2) (u := v2) l4 (by omega))
  have r3 := run_store Try.prog (((W.setCell ⟨p, 0, none⟩ v0).setCell ⟨p, 1, none⟩ v1).setCell ⟨p, 2, none⟩ v2) ⟨p, 3, none⟩ v3 .plain h3
  rw [m3.1] at r3
  simp only [m3.2] at r3
  have n4 := (Cel.set (O' := p) (o' := 3) (u := v3) m4 (by omega))
  have r4 := run_store Try.prog ((((W.setCell ⟨p, 0, none⟩ v0).setCell ⟨p, 1, none⟩ v1).setCell ⟨p, 2, none⟩ v2).setCell ⟨p, 3, none⟩ v3) ⟨p, 4, none⟩ v4 .plain h4
  rw [n4.1] at r4
  simp only [n4.2] at r4
  simp only [Bool.false_eq_true, if_false] at r0 r1 r2 r3 r4
  simp [ho, hx, hy, go_sem, r0, r1, r2, r3, r4, h0, h1, h2, h3, h4, Oper.upon, Act.put, c0a, c0b, c1a, c1b, c2a, c2b, c3a, c3b, c4a, c4b, hd]
  have g5 : W.grownBy (((((W.setCell ⟨p, 0, none⟩ v0).setCell ⟨p, 1, none⟩ v1).setCell ⟨p, 2, none⟩ v2).setCell ⟨p, 3, none⟩ v3).setCell ⟨p, 4, none⟩ v4) (some p) := Gr.trans (Gr.trans (Gr.trans (Gr.trans (gb_set _ ⟨p, 0, none⟩ _) (gb_set _ ⟨p, 1, none⟩ _)) (gb_set _ ⟨p, 2, none⟩ _)) (gb_set _ ⟨p, 3, none⟩ _)) (gb_set _ ⟨p, 4, none⟩ _)
  refine h _ ?_ ?_ ?_ ?_ (Cel.put n4) g5 (fun lo V m ht => ((TI.other (hi := W.heap.size) ⟨ht, fun j e => (ht.lt2 j e).2⟩ g5 (fun j e => by cases e; exact ⟨_, T, hh, hT⟩)).1)) (Array.getElem?_eq_some_iff.1 hh).1
  · exact ((((Cel.put (u := v0) ⟨c0a, c0b⟩).set (by omega)).set (by omega)).set (by omega)).set (by omega)
  · exact (((Cel.put (u := v1) k1).set (by omega)).set (by omega)).set (by omega)
  · exact ((Cel.put (u := v2) l2).set (by omega)).set (by omega)
  · exact (Cel.put (u := v3) m3).set (by omega)

set_option linter.unusedVariables false in
set_option maxHeartbeats 800000 in
theorem st5_facts {W W5 : World} {p : Nat} {v0 v1 v2 v3 v4 : Value} {T : TypeId} {d0 d1 d2 d3 d4 : Value} (e : W5 = (((((W.setCell ⟨p, 0, none⟩ v0).setCell ⟨p, 1, none⟩ v1).setCell ⟨p, 2, none⟩ v2).setCell ⟨p, 3, none⟩ v3).setCell ⟨p, 4, none⟩ v4))
    (hh : W.heap[p]? = some (.cells #[d0, d1, d2, d3, d4] T (0, 0))) (hT : T ≠ 3) :
    Cel W5 p 0 v0 ∧ Cel W5 p 1 v1 ∧ Cel W5 p 2 v2 ∧ Cel W5 p 3 v3 ∧ Cel W5 p 4 v4 ∧ W.grownBy W5 (some p) ∧ (∀ lo V m, TS W lo 3 1 V m → TS W5 lo 3 1 V m) := by
  subst e
  have c0 : Cel W p 0 d0 := ⟨(cell_of_row W p 0 _ _ _ hh).trans rfl, by simp [World.frozen?, hh]⟩
  have c1 : Cel W p 1 d1 := ⟨(cell_of_row W p 1 _ _ _ hh).trans rfl, by simp [World.frozen?, hh]⟩
  have c2 : Cel W p 2 d2 := ⟨(cell_of_row W p 2 _ _ _ hh).trans rfl, by simp [World.frozen?, hh]⟩
  have c3 : Cel W p 3 d3 := ⟨(cell_of_row W p 3 _ _ _ hh).trans rfl, by simp [World.frozen?, hh]⟩
  have c4 : Cel W p 4 d4 := ⟨(cell_of_row W p 4 _ _ _ hh).trans rfl, by simp [World.frozen?, hh]⟩
  obtain ⟨c0a, c0b⟩ := c0
  obtain ⟨c1a, c1b⟩ := c1
  obtain ⟨c2a, c2b⟩ := c2
  obtain ⟨c3a, c3b⟩ := c3
  obtain ⟨c4a, c4b⟩ := c4
  have k1 := (Cel.set (O' := p) (o' := 0) (u := v0) ⟨c1a, c1b⟩ (by omega))
  have k2 := (Cel.set (O' := p) (o' := 0) (u := v0) ⟨c2a, c2b⟩ (by omega))
  have k3 := (Cel.set (O' := p) (o' := 0) (u := v0) ⟨c3a, c3b⟩ (by omega))
  have k4 := (Cel.set (O' := p) (o' := 0) (u := v0) ⟨c4a, c4b⟩ (by omega))
  have l2 := (Cel.set (O' := p) (o' := 1) (u := v1) k2 (by omega))
  have l3 := (Cel.set (O' := p) (o' := 1) (u := v1) k3 (by omega))
  have l4 := (Cel.set (O' := p) (o' := 1) (u := v1) k4 (by omega))
  have m3 := (Cel.set (O' := p) (o' := 2) (u := v2) l3 (by omega))
  have m4 := (Cel.set (O' := p) (o' := 2) (u := v2) l4 (by omega))
  have n4 := (Cel.set (O' := p) (o' := 3) (u := v3) m4 (by omega))
  have g5 : W.grownBy (((((W.setCell ⟨p, 0, none⟩ v0).setCell ⟨p, 1, none⟩ v1).setCell ⟨p, 2, none⟩ v2).setCell ⟨p, 3, none⟩ v3).setCell ⟨p, 4, none⟩ v4) (some p) := Gr.trans (Gr.trans (Gr.trans (Gr.trans (gb_set _ ⟨p, 0, none⟩ _) (gb_set _ ⟨p, 1, none⟩ _)) (gb_set _ ⟨p, 2, none⟩ _)) (gb_set _ ⟨p, 3, none⟩ _)) (gb_set _ ⟨p, 4, none⟩ _)
  refine ⟨?_, ?_, ?_, ?_, Cel.put n4, g5, fun lo V m ht => ((TI.other (hi := W.heap.size) ⟨ht, fun j e => (ht.lt2 j e).2⟩ g5 (fun j e => by cases e; exact ⟨_, T, hh, hT⟩)).1)⟩
  · exact ((((Cel.put (u := v0) ⟨c0a, c0b⟩).set (by omega)).set (by omega)).set (by omega)).set (by omega)
  · exact (((Cel.put (u := v1) k1).set (by omega)).set (by omega)).set (by omega)
  · exact ((Cel.put (u := v2) l2).set (by omega)).set (by omega)
  · exact (Cel.put (u := v3) m3).set (by omega)
end Go.Proofs.Ytafiikfaeomhpaa

namespace Go.Proofs.Ytafiikfaeomhpaa
open Go.ChangeShapes Go.WideShapes Go.ChangeAt Go.RowKit

section
variable {w0 w w' W : World} {X Y : Nat} {c0 c1 u : Value}
/-- A model's box that a copy fills, and the result's box. -/
structure CX (w0 w : World) (X Y : Nat) (c0 c1 : Value) : Prop where
  hX : w0.heap.size ≤ X
  hY : w0.heap.size ≤ Y
  hne : X ≠ Y
  res : ∀ i, i < 2 → ∃ v, Cel w Y i v
  c0 : Cel w X 0 c0
  c1 : Cel w X 1 c1
  bl : Below w0.heap.size w0 w
theorem CX.bel (h : CX w0 w X Y c0 c1) (hb : Below w.heap.size w w') : CX w0 w' X Y c0 c1 :=
  ⟨h.hX, h.hY, h.hne, fun i hi => (h.res i hi).imp fun _ hv => hv.below hb, h.c0.below hb, h.c1.below hb, bl_trans h.bl hb⟩
theorem CX.grow {ov : Value} (h : CX w0 w X Y c0 c1) (hg : w.grownBy w' ov.ownBlock) (ho : ∀ j, ov.ownBlock = some j → w0.heap.size ≤ j ∧ j ≠ X ∧ j ≠ Y) : CX w0 w' X Y c0 c1 :=
  ⟨h.hX, h.hY, h.hne, fun i hi => (h.res i hi).imp fun _ hv => hv.grow hg (fun b e => (ho b e).2.2), h.c0.grow hg (fun b e => (ho b e).2.1), h.c1.grow hg (fun b e => (ho b e).2.1), h.bl.grown hg h.bl.size (fun b e => (ho b e).1)⟩
theorem CX.set_ (h : CX w0 w X Y c0 c1) {p : Addr} (hp : w0.heap.size ≤ p.block ∧ p.block ≠ X ∧ p.block ≠ Y) : CX w0 (w.setCell p u) X Y c0 c1 := by
  obtain ⟨b, o, s⟩ := p
  refine ⟨h.hX, h.hY, h.hne, fun i hi => (h.res i hi).imp fun _ hv => ?_, ?_, ?_, h.bl.setCell hp.1 _⟩
  all_goals
    refine ⟨?_, ?_⟩
  · exact (World.cell?_of_block (a := ⟨Y, i, none⟩) (Below.heap_setCell w ⟨b, o, s⟩ u Y (fun e => hp.2.2 e.symm))).trans hv.1
  · exact (World.frozen?_of_block (a := ⟨Y, i, none⟩) (Below.heap_setCell w ⟨b, o, s⟩ u Y (fun e => hp.2.2 e.symm))).trans hv.2
  · exact (World.cell?_of_block (a := ⟨X, 0, none⟩) (Below.heap_setCell w ⟨b, o, s⟩ u X (fun e => hp.2.1 e.symm))).trans h.c0.1
  · exact (World.frozen?_of_block (a := ⟨X, 0, none⟩) (Below.heap_setCell w ⟨b, o, s⟩ u X (fun e => hp.2.1 e.symm))).trans h.c0.2
  · exact (World.cell?_of_block (a := ⟨X, 1, none⟩) (Below.heap_setCell w ⟨b, o, s⟩ u X (fun e => hp.2.1 e.symm))).trans h.c1.1
  · exact (World.frozen?_of_block (a := ⟨X, 1, none⟩) (Below.heap_setCell w ⟨b, o, s⟩ u X (fun e => hp.2.1 e.symm))).trans h.c1.2
theorem CX.put1 (h : CX w0 w X Y c0 c1) : CX w0 (w.setCell ⟨X, 1, none⟩ u) X Y c0 u :=
  have hX := h.hX; have hne := h.hne
  ⟨h.hX, h.hY, h.hne, fun i hi => (h.res i hi).imp fun _ hv => hv.set (by omega), h.c0.set (by omega), h.c1.put, h.bl.setCell (by show w0.heap.size ≤ X; omega) _⟩
theorem CX.lt (h : CX w0 w X Y c0 c1) : X < w.heap.size ∧ Y < w.heap.size := by
  obtain ⟨v, hv⟩ := h.res 0 (by omega)
  exact ⟨World.block_lt_of_cell? w ⟨X, 0, none⟩ h.c0.1, World.block_lt_of_cell? w ⟨Y, 0, none⟩ hv.1⟩
theorem CX.fin (h : CX w0 w X Y c0 c1) (u0 u1 : Value) : w.grownBy ((w.setCell ⟨Y, 0, none⟩ u0).setCell ⟨Y, 1, none⟩ u1) (some Y) ∧ Below w0.heap.size w0 ((w.setCell ⟨Y, 0, none⟩ u0).setCell ⟨Y, 1, none⟩ u1) :=
  ⟨Gr.trans (gb_set _ ⟨Y, 0, none⟩ _) (gb_set _ ⟨Y, 1, none⟩ _), (h.bl.setCell h.hY _).setCell h.hY _⟩
theorem ts_lit8 {p : Nat} (h : W.heap[p]? = some (.cells #[] 3 (0, 0))) : TS W p 3 1 (.slice (some ⟨p, 0, none⟩) 0 0) 0 :=
  ⟨[], ⟨rfl, .inr ⟨p, 0, #[], rfl, Nat.le_refl _, h, Nat.le_refl _, by unfold maxLen; omega, rfl, rfl⟩⟩, rfl, fun u hu => by cases hu⟩
theorem run_cpO (W : World) {B0 : Nat} {v U : Value} {m : Nat} {l1 h1 : Nat} (hown : TS W B0 3 1 v 0) (hr : TI W l1 h1 U m) (hB : B0 ≤ W.heap.size) (hm : m ≤ 1048576) :
    ∃ v' w', (Builtin.append_ #[22, 22] 22 #[v, U]).run Try.prog W = .ok v' w' ∧ TS w' B0 3 1 v' m ∧ W.grownBy w' v.ownBlock ∧ (v'.ownBlock = v.ownBlock ∨ v'.ownBlock = some W.heap.size) := by
  obtain ⟨i0, hi, hz0, hz1, hz2⟩ := info_parts Try.infoInt
  obtain ⟨xs, h0, hl, h2⟩ := hown
  obtain ⟨⟨ys, k0, kl, k2⟩, k3⟩ := hr
  rcases id k0.2 with ⟨rfl, rfl⟩ | ⟨g, cap, cur, rfl, _⟩
  · exact ⟨v, W, run_append_owned_none (P := Try.prog) (w := W) B0 22 22 3 i0 1 Try.underlying22 hi v 0 _ h0, ⟨xs, h0, hl, h2⟩, ⟨rfl, rfl, rfl, Nat.le_refl _, fun _ _ _ => rfl⟩, .inl rfl⟩
  · obtain ⟨v', w', a1, a2, a3, _, a5⟩ := run_append_own_at (P := Try.prog) W B0 22 22 3 i0 _ 1 8 Try.underlying22 hi hz0 hz1 hz2 rfl (by omega) v 0 _ h0 ⟨g, 0, none⟩ m cap ys kl (k0.cells rfl) (fun u hu => by obtain ⟨z, rfl⟩ := k2 u hu; rfl) (by unfold maxLen; omega) (by omega) hB
    rw [Nat.zero_add] at a2
    refine ⟨v', w', a1, ⟨xs ++ ys, a2, a2.1, fun u hu => ?_⟩, a3, a5⟩
    rcases List.mem_append.1 hu with hu | hu
    · exact h2 u hu
    · exact k2 u hu
theorem lit_alloc {p : Nat} {o o' : Obj} (h : W.heap[p]? = some o) : (W.alloc o').heap[p]? = some o := ((bl_alloc (Below.refl W.heap.size W) o').block p (Array.getElem?_eq_some_iff.1 h).1).trans h
theorem frz_row {w : World} {g q : Nat} {cs : Array Value} {T : TypeId} (h : w.heap[g]? = some (.cells cs T (0, 0))) : w.frozen? ⟨g, q, none⟩ = false := by simp [World.frozen?, h]
theorem lit_drew {p : Nat} {o : Obj} (h : W.heap[p]? = some o) : W.drew.heap[p]? = some o := h
theorem lit_grow {p : Nat} {o : Obj} {row : Option Nat} (hg : W.grownBy w' row) (h : W.heap[p]? = some o) (hne : some p ≠ row) : w'.heap[p]? = some o := (hg.block p (Array.getElem?_eq_some_iff.1 h).1 hne).trans h
theorem ts_kept {lo s n : Nat} {T : TypeId} {V : Value} {row : Option Nat} (h : TS w lo T s V n) (hg : w.grownBy w' row) (hne : ∀ j, V.ownBlock = some j → row ≠ some j) : TS w' lo T s V n := by
  obtain ⟨xs, h0, h1, h2⟩ := h
  refine ⟨xs, h0.kept hg ?_, h1, h2⟩
  cases e : V.ownBlock with
  | none => exact .inl rfl
  | some j => exact .inr fun e' => hne j e e'.symm
set_option maxRecDepth 100000 in
set_option maxHeartbeats 800000 in
/-- append([]int{}, x...). -/
theorem wp_cpI {o : Oper} {a : Act} {K : Act → World → Prop} {Q : Exit → Act → World → Prop} {v U : Value} {m B0 l1 h1 : Nat} (s x : Operand)
    (ho : o.op = .call { callee := .builtin .append, args := #[s, x], argTypes := #[22, 22] }) (hty : o.type = 22)
    (hs : a.eval s = v) (hx : a.eval x = U) (hown : TS W B0 3 1 v 0) (hr : TI W l1 h1 U m) (hB : B0 ≤ W.heap.size) (hm : m ≤ 1048576)
    (h : ∀ A cap w', TS w' B0 3 1 (.slice A m cap) m → W.grownBy w' v.ownBlock → ((Value.slice A m cap).ownBlock = v.ownBlock ∨ (Value.slice A m cap).ownBlock = some W.heap.size) → K (a.put o.dst (.slice A m cap)) w') : o.wp Try.prog a W K Q := by
  obtain ⟨v', w', hrun, h2, h3, h4⟩ := run_cpO W hown hr hB hm
  obtain ⟨A, cap, rfl⟩ := ts_head h2
  unfold Oper.wp execOp
  simp only [ho, hty, resolve, invoke, builtin, Sem.run_bind, Sem.run_pure, Result.andThen_ok, List.map_toArray, List.map_cons, List.map_nil, hs, hx, hrun]
  exact h A cap w' h2 h3 h4
end

/-- Where the copy of a rule's box stands. -/
structure F6 (w4 : World) (Bx : Nat) (kd bd : Int) (nv nc : Nat) (Av Ac : Option Addr) (cv cc : Nat) (L : Nat → Bool) (w : World) (u6 u25 u26 u27 u28 u29 u30 u31 u32 u33 u34 u35 u36 u37 : Value) : Prop where
  bel : Below w4.heap.size w4 w
  a0 : L 0 = true → u25 = .pointer (some ⟨Bx, 0, none⟩)
  a1 : L 1 = true → u26 = .int .i64 kd
  a2 : L 2 = true → ∃ p, u27 = .slice (some ⟨p, 0, none⟩) 0 0 ∧ w4.heap.size ≤ p ∧ p < w.heap.size ∧ (L 5 = false → w.heap[p]? = some (.cells #[] 3 (0, 0)))
  a3 : L 3 = true → u28 = .pointer (some ⟨Bx, 1, none⟩)
  a4 : L 4 = true → u29 = .slice Av nv cv
  a5 : L 5 = true → ∃ A c, u30 = .slice A nv c ∧ TS w w4.heap.size 3 1 (.slice A nv c) nv
  a6 : L 6 = true → ∃ p, u31 = .slice (some ⟨p, 0, none⟩) 0 0 ∧ w4.heap.size ≤ p ∧ p < w.heap.size ∧ (L 9 = false → w.heap[p]? = some (.cells #[] 3 (0, 0)))
  a7 : L 7 = true → u32 = .pointer (some ⟨Bx, 2, none⟩)
  a8 : L 8 = true → u33 = .slice Ac nc cc
  a9 : L 9 = true → ∃ A c, u34 = .slice A nc c ∧ TS w w4.heap.size 3 1 (.slice A nc c) nc
  a10 : L 10 = true → u35 = .pointer (some ⟨Bx, 3, none⟩)
  a11 : L 11 = true → u36 = .int .i64 bd
  a12 : L 12 = true → u37 = .agg #[.int .i64 kd, u30, u34, .int .i64 bd, .slice none 0 0]
  a13 : L 13 = true → ∃ p, u6 = .pointer (some ⟨p, 0, none⟩) ∧ w4.heap.size ≤ p ∧ p < w.heap.size ∧ (L 14 = false → w.heap[p]? = some (.cells #[.int .i64 0, .slice none 0 0, .slice none 0 0, .int .i64 0, .slice none 0 0] 90 (0, 0))) ∧ (L 14 = true → Cel w p 0 (.int .i64 kd) ∧ Cel w p 1 u30 ∧ Cel w p 2 u34 ∧ Cel w p 3 (.int .i64 bd) ∧ Cel w p 4 (.slice none 0 0) ∧ u30.ownBlock ≠ some p ∧ u34.ownBlock ≠ some p)
  s1 : L 2 = true → L 6 = true → ∀ p q, u27 = .slice (some ⟨p, 0, none⟩) 0 0 → u31 = .slice (some ⟨q, 0, none⟩) 0 0 → p ≠ q
  s2 : L 5 = true → L 6 = true → ∀ q, u31 = .slice (some ⟨q, 0, none⟩) 0 0 → L 9 = false → u30.ownBlock ≠ some q
theorem st_ne {W : World} {lo p m : Nat} {V : Value} {cs : Array Value} {T : TypeId} (h : TS W lo 3 1 V m) (hp : W.heap[p]? = some (.cells cs T (0, 0))) (hT : T ≠ 3) : V.ownBlock ≠ some p := by
  intro e
  obtain ⟨cs', h'⟩ := TI.typed (hi := W.heap.size) ⟨h, fun j e => (h.lt2 j e).2⟩ e
  rw [hp] at h'
  cases h'
  exact hT rfl
theorem tf {b : Bool} {P : Prop} (h : b = true) (h' : b = false) : P := by rw [h] at h'; cases h'
theorem F6.new {w4 : World} {Bx : Nat} {kd bd : Int} {nv nc : Nat} {Av Ac : Option Addr} {cv cc : Nat} {L : Nat → Bool} {w w' : World} {u6 u25 u26 u27 u28 u29 u30 u31 u32 u33 u34 u35 u36 u37 : Value} (h : F6 w4 Bx kd bd nv nc Av Ac cv cc L w u6 u25 u26 u27 u28 u29 u30 u31 u32 u33 u34 u35 u36 u37) (hb : Below w.heap.size w w') : F6 w4 Bx kd bd nv nc Av Ac cv cc L w' u6 u25 u26 u27 u28 u29 u30 u31 u32 u33 u34 u35 u36 u37 :=
  ⟨bl_trans h.bel hb, h.a0, h.a1, fun hL => by
    obtain ⟨p, e, h1, h2, h3⟩ := h.a2 hL
    exact ⟨p, e, h1, Nat.lt_of_lt_of_le h2 hb.size, fun h5 => (hb.block p h2).trans (h3 h5)⟩, h.a3, h.a4, fun hL => by
    obtain ⟨A, c, e, h1⟩ := h.a5 hL
    exact ⟨A, c, e, h1.bel hb⟩, fun hL => by
    obtain ⟨p, e, h1, h2, h3⟩ := h.a6 hL
    exact ⟨p, e, h1, Nat.lt_of_lt_of_le h2 hb.size, fun h5 => (hb.block p h2).trans (h3 h5)⟩, h.a7, h.a8, fun hL => by
    obtain ⟨A, c, e, h1⟩ := h.a9 hL
    exact ⟨A, c, e, h1.bel hb⟩, h.a10, h.a11, h.a12, fun hL => by
    obtain ⟨p, e, h1, h2, h3, h4⟩ := h.a13 hL
    exact ⟨p, e, h1, Nat.lt_of_lt_of_le h2 hb.size, fun h5 => (hb.block p h2).trans (h3 h5), fun h5 => by
      obtain ⟨q0, q1, q2, q3, q4, n1, n2⟩ := h4 h5
      exact ⟨q0.below hb, q1.below hb, q2.below hb, q3.below hb, q4.below hb, n1, n2⟩⟩, h.s1, h.s2⟩

/-- The copy of a rule's box while its rows come. -/
structure YB (w4 wq : World) (L5 Yb : Nat) (kd bd : Int) (v1 v2 : Value) (nv nc : Nat) (ov : Value) (k : Nat) : Prop where
  bl : Below w4.heap.size w4 wq
  y0 : Cel wq Yb 0 (.int .i64 kd)
  y1 : Cel wq Yb 1 v1
  y2 : Cel wq Yb 2 v2
  y3 : Cel wq Yb 3 (.int .i64 bd)
  y4 : Cel wq Yb 4 ov
  t1 : TI wq w4.heap.size L5 v1 nv
  t2 : TI wq w4.heap.size L5 v2 nc
  el : EL wq L5 wq.heap.size ov k 22
  n1 : v1.ownBlock ≠ some Yb
  n2 : v2.ownBlock ≠ some Yb
  hY : w4.heap.size ≤ Yb
  hL : Yb < L5
  hs : L5 ≤ wq.heap.size
theorem YB.step {w4 wq w' w'' : World} {L5 Yb : Nat} {kd bd : Int} {v1 v2 : Value} {nv nc : Nat} {ov u : Value} {k : Nat} (h : YB w4 wq L5 Yb kd bd v1 v2 nv nc ov k) (hb : Below wq.heap.size wq w') (hg : w'.grownBy w'' ov.ownBlock) (hel : EL w'' L5 w''.heap.size u (k + 1) 22) :
    YB w4 (w''.setCell ⟨Yb, 4, none⟩ u) L5 Yb kd bd v1 v2 nv nc u (k + 1) := by
  have hown : ∀ j, ov.ownBlock = some j → L5 ≤ j := by
    obtain ⟨xs, h0, -⟩ := h.el
    exact fun j e => (h0.lt j e).1
  have hY := h.hY; have hL := h.hL; have hs := h.hs
  have s1 := hb.size; have s2 := hg.size
  have hne : ∀ b, ov.ownBlock = some b → b ≠ Yb := fun b e => by have := hown b e; omega
  have o1 : Oth8 (some Yb) L5 w''.heap.size := oth_some (.inl hL)
  refine ⟨((bl_trans h.bl hb).grown hg (by have := (bl_trans h.bl hb).size; exact this) (fun b e => by have := hown b e; omega)).setCell hY _, ((h.y0.below hb).grow hg hne).set (by omega), ((h.y1.below hb).grow hg hne).set (by omega), ((h.y2.below hb).grow hg hne).set (by omega), ((h.y3.below hb).grow hg hne).set (by omega), ((h.y4.below hb).grow hg hne).put, ?_, ?_, ?_, h.n1, h.n2, hY, hL, by simp only [World.setCell, Array.size_modify]; omega⟩
  · have h1 := (h.t1.kept (gb_of hb) oth_none).kept hg (fun b e => .inr (hown b e))
    exact ⟨ts_kept h1.1 (gb_set w'' ⟨Yb, 4, none⟩ u) (fun j ej er => by cases er; exact h.n1 ej), h1.2⟩
  · have h1 := (h.t2.kept (gb_of hb) oth_none).kept hg (fun b e => .inr (hown b e))
    exact ⟨ts_kept h1.1 (gb_set w'' ⟨Yb, 4, none⟩ u) (fun j ej er => by cases er; exact h.n2 ej), h1.2⟩
  · exact (hel.kept (gb_set w'' ⟨Yb, 4, none⟩ u) o1).more (Nat.le_refl _) (by simp only [World.setCell, Array.size_modify]; omega) (Nat.le_refl _)
/-- A list of such a slice, and its cell. -/
theorem el_at {w : World} {lo hi n N : Nat} {V : Value} (h : EL w lo hi V n N) {i : Nat} (hi' : i < n) : ∃ g cap Ae ne ce, V = .slice (some ⟨g, 0, none⟩) n cap ∧ ne ≤ N ∧ w.cell? ⟨g, i, none⟩ = some (.slice Ae ne ce) ∧ TI w lo hi (.slice Ae ne ce) ne := by
  obtain ⟨xs, h0, h1, h2⟩ := h
  obtain ⟨U, m, a, b, c⟩ := h2 i hi'
  obtain ⟨Ae, ce, e⟩ := c.head
  subst e
  rcases id h0.2 with ⟨_, hk⟩ | ⟨g, cap, cur, e, hg, hh, _⟩
  · omega
  · subst e
    have := h0.cells rfl _ _ a
    rw [Go.WideShapes.add_plain, Nat.zero_add] at this
    exact ⟨g, cap, Ae, m, ce, rfl, b, this, c⟩

def c5 (v0 v1 v2 v3 v4 : Value) : Nat → Value
  | 0 => v0
  | 1 => v1
  | 2 => v2
  | 3 => v3
  | _ => v4
/-- Where the append of a row's copy stands. -/
structure F10 (wq : World) (Yb Bx k : Nat) (Ao : Option Addr) (capo g2 nr cr : Nat) (Ae : Option Addr) (ne ce L5 : Nat) (L : Nat → Bool) (w : World) (u45 u46 u47 u48 u49 u50 u51 u52 u53 u54 u55 u56 : Value) : Prop where
  bel : L 10 = false → Below wq.heap.size wq w
  b0 : L 0 = true → u45 = .pointer (some ⟨Yb, 4, none⟩)
  b1 : L 1 = true → u46 = .slice Ao k capo
  b2 : L 2 = true → ∃ p, u47 = .slice (some ⟨p, 0, none⟩) 0 0 ∧ wq.heap.size ≤ p ∧ (L 8 = false → w.heap[p]? = some (.cells #[] 3 (0, 0)))
  b3 : L 3 = true → u48 = .pointer (some ⟨Bx, 4, none⟩)
  b4 : L 4 = true → u49 = .slice (some ⟨g2, 0, none⟩) nr cr
  b5 : L 5 = true → u50 = .int .i64 k
  b6 : L 6 = true → u51 = .pointer (some ⟨g2, k, none⟩)
  b7 : L 7 = true → u52 = .slice Ae ne ce
  b8 : L 8 = true → ∃ A c, u53 = .slice A ne c ∧ (L 10 = false → TS w wq.heap.size 3 1 (.slice A ne c) ne)
  b9 : L 9 = true → ∃ p, u54 = .slice (some ⟨p, 0, none⟩) 1 1 ∧ (L 10 = false → w.heap[p]? = some (.cells #[u53] 22 (0, 0)))
  b10 : L 10 = true → ∃ gg c, u55 = .slice (some ⟨gg, 0, none⟩) (k + 1) c ∧ ∃ w' w'', Below wq.heap.size wq w' ∧ w'.grownBy w'' (Value.slice Ao k capo).ownBlock ∧ EL w'' L5 w''.heap.size (.slice (some ⟨gg, 0, none⟩) (k + 1) c) (k + 1) 22 ∧ (L 12 = false → w = w'') ∧ (L 12 = true → w = w''.setCell ⟨Yb, 4, none⟩ u55)
  b11 : L 11 = true → u56 = .pointer (some ⟨Yb, 4, none⟩)

set_option maxRecDepth 100000 in
set_option maxHeartbeats 6400000 in
theorem mcopy_any (A0 A1 : Option Addr) (sn cap0 n cap1 lo hi : Nat) (w : World) (hs : sn ≤ 10) (hn : n ≤ 10) (h0 : TI w lo hi (.slice A0 sn cap0) sn) (h1 : ER w lo hi (.slice A1 n cap1) n 22) :
    Calls Try.prog 83 #[.agg #[.slice A0 sn cap0, .slice A1 n cap1]] w fun e w' => ∃ As cs Ar cr mid, w.heap.size ≤ mid ∧ mid ≤ w'.heap.size ∧ e = .returned (.agg #[.slice As sn cs, .slice Ar n cr]) ∧ TI w' w.heap.size mid (.slice As sn cs) sn ∧ ER w' mid w'.heap.size (.slice Ar n cr) n 22 ∧ Below w.heap.size w w' := by
  have H0 := Lib.hid h0
  have H1 := Lib.hid h1
  clear h0 h1
  have HB0 := Lib.hid (bl_alloc (bl_alloc (bl_alloc (Below.refl w.heap.size w) (.cells #[.slice A0 sn cap0, .slice A1 n cap1] 30)) (.cells #[.slice none 0 0, .slice none 0 0] 30)) (.cells #[] 3))
  have HL0 := Lib.hid (ts_lit8 (W := ((w.alloc (.cells #[.slice A0 sn cap0, .slice A1 n cap1] 30)).alloc (.cells #[.slice none 0 0, .slice none 0 0] 30)).alloc (.cells #[] 3)) (p := w.heap.size + 1 + 1) (alloc_at (by simp)))
  have M1 := Lib.hid (show Cel (((w.alloc (.cells #[.slice A0 sn cap0, .slice A1 n cap1] 30)).alloc (.cells #[.slice none 0 0, .slice none 0 0] 30)).alloc (.cells #[] 3)) w.heap.size 1 (.slice A1 n cap1) from ⟨by go_simp, by go_simp⟩)
  have Y0 := Lib.hid (show Cel (((w.alloc (.cells #[.slice A0 sn cap0, .slice A1 n cap1] 30)).alloc (.cells #[.slice none 0 0, .slice none 0 0] 30)).alloc (.cells #[] 3)) (w.heap.size + 1) 0 (.slice none 0 0) from ⟨by go_simp, by go_simp⟩)
  have Y1 := Lib.hid (show Cel (((w.alloc (.cells #[.slice A0 sn cap0, .slice A1 n cap1] 30)).alloc (.cells #[.slice none 0 0, .slice none 0 0] 30)).alloc (.cells #[] 3)) (w.heap.size + 1) 1 (.slice none 0 0) from ⟨by go_simp, by go_simp⟩)
  have hz3 : (((w.alloc (.cells #[.slice A0 sn cap0, .slice A1 n cap1] 30)).alloc (.cells #[.slice none 0 0, .slice none 0 0] 30)).alloc (.cells #[] 3)).heap.size = w.heap.size + 1 + 1 + 1 := by simp
  go_enter Try.func83, Try.ntmps83
  go_wp2_with (at_builtin; refine wpList_plain (by rfl) fun K' hK' => ?_; refine wp_cpI (U := .slice A0 sn cap0) _ _ (by rfl) (by rfl) (by rfl) (by rfl) HL0.out (H0.out.kept (gb_of HB0.out) oth_none) (by simp) (by omega) ?_; intro As cs w2 hts2 hgr2 _; have TS2 := Lib.hid hts2; have GR2 := Lib.hid hgr2; clear hts2 hgr2; refine hK' _ _ ?_; clear hK' K')
  have hw2 := GR2.out.size
  rw [hz3] at hw2
  have hB2 : Below w.heap.size w w2 := HB0.out.grown GR2.out (by omega) (fun b e => by cases e; show w.heap.size ≤ w.heap.size + 1 + 1; omega)
  have hal := bl_alloc (Below.refl w2.heap.size w2) (.cells #[.slice As sn cs, .slice none 0 0] 30)
  have M2 := Lib.hid ((M1.out.grow GR2.out (fun b e => by cases e; show w.heap.size + 1 + 1 ≠ w.heap.size; omega)).below hal)
  have CX2 : Hid (CX w (w2.alloc (.cells #[.slice As sn cs, .slice none 0 0] 30)) w2.heap.size (w.heap.size + 1) (.slice As sn cs) (.slice none 0 0)) := Lib.hid ⟨by omega, by omega, by omega, fun i hi => (by
    have : i = 0 ∨ i = 1 := by omega
    rcases this with rfl | rfl
    · exact ⟨_, (Y0.out.grow GR2.out (fun b e => by cases e; show w.heap.size + 1 + 1 ≠ w.heap.size + 1; omega)).below hal⟩
    · exact ⟨_, (Y1.out.grow GR2.out (fun b e => by cases e; show w.heap.size + 1 + 1 ≠ w.heap.size + 1; omega)).below hal⟩), ⟨by go_simp, by go_simp⟩, ⟨by go_simp, by go_simp⟩, bl_trans hB2 hal⟩
  have TI2 := Lib.hid ((TS2.out.ti (Nat.le_refl _)).kept (gb_of hal) oth_none)
  have hz4 : w2.heap.size < (w2.alloc (.cells #[.slice As sn cs, .slice none 0 0] 30)).heap.size := by simp
  clear M1 Y0 Y1 hz3 HB0 HL0 TS2 GR2 hB2 hal H0
  obtain ⟨X, hX⟩ : ∃ X, w2.heap.size = X := ⟨_, rfl⟩
  rw [hX] at CX2 TI2 hz4 hw2 ⊢
  clear hX
  generalize (w2.alloc (.cells #[.slice As sn cs, .slice none 0 0] 30)) = w3 at *
  go_loopw [4] (fun c wr => ∃ (i : Nat) (ov : Value), i ≤ n ∧ c = .int .i64 i ∧ CX w wr X (w.heap.size + 1) (.slice As sn cs) ov ∧ TI wr (w.heap.size + 1 + 1) X (.slice As sn cs) sn ∧ ER wr (X + 1) wr.heap.size ov i 22 ∧ Cel wr w.heap.size 1 (.slice A1 n cap1)) (fun c _ => n - (intOf c).toNat)
  case atStart => exact ⟨0, .slice none 0 0, Nat.zero_le _, rfl, CX2.out, TI2.out, ER.nil, M2.out⟩
  case round =>
    obtain ⟨i, ov, hi, rfl, hcx, hti, her, hm⟩ := hrel
    have CXk := Lib.hid hcx
    have TIk := Lib.hid hti
    have ERk := Lib.hid her
    have Mk := Lib.hid hm
    obtain ⟨Ao, capo, rfl⟩ := her.head
    obtain ⟨m1, m1f⟩ := hm
    have hzr := hcx.lt
    have hbl := Lib.hid hcx.bl
    clear hcx hti her CX2 TI2 M2
    by_cases hlt : i < n
    · have hlt' : (i : Int) < (n : Int) := by omega
      have hi0 : (0 : Int) ≤ (i : Int) := by omega
      obtain ⟨g, cp, c, e, hg1, hg2, -, hcell, -, hE⟩ := (H1.out.kept (gb_of hbl.out) oth_none).at_ hlt
      cases e
      obtain ⟨kd, bd, nv, nc, nr, e0, e3, b1, b2, b3, tv, tc, tr⟩ := hE
      obtain ⟨Av, cv, e1⟩ := tv.head
      obtain ⟨Ac, cc, e2⟩ := tc.head
      obtain ⟨Ar, cr, e4⟩ := tr.head
      have x0 := hcell 0 (by omega)
      have x1 := hcell 1 (by omega)
      have x2 := hcell 2 (by omega)
      have x3 := hcell 3 (by omega)
      have x4 := hcell 4 (by omega)
      rw [e0] at x0
      rw [e1] at x1 tv
      rw [e2] at x2 tc
      rw [e3] at x3
      rw [e4] at x4 tr
      rw [Nat.add_zero] at x0
      have TV := Lib.hid tv
      have TC := Lib.hid tc
      have TR := Lib.hid tr
      clear hcell e0 e1 e2 e3 e4 tv tc tr
      have hal := bl_alloc (Below.refl wr.heap.size wr) (.cells #[.int .i64 kd, .slice Av nv cv, .slice Ac nc cc, .int .i64 bd, .slice Ar nr cr] 90)
      have Z0 := Lib.hid (show (wr.alloc (.cells #[.int .i64 kd, .slice Av nv cv, .slice Ac nc cc, .int .i64 bd, .slice Ar nr cr] 90)).cell? ⟨wr.heap.size, 0, none⟩ = some (.int .i64 kd) by go_simp)
      have Z1 := Lib.hid (show (wr.alloc (.cells #[.int .i64 kd, .slice Av nv cv, .slice Ac nc cc, .int .i64 bd, .slice Ar nr cr] 90)).cell? ⟨wr.heap.size, 1, none⟩ = some (.slice Av nv cv) by go_simp)
      have Z2 := Lib.hid (show (wr.alloc (.cells #[.int .i64 kd, .slice Av nv cv, .slice Ac nc cc, .int .i64 bd, .slice Ar nr cr] 90)).cell? ⟨wr.heap.size, 2, none⟩ = some (.slice Ac nc cc) by go_simp)
      have Z3 := Lib.hid (show (wr.alloc (.cells #[.int .i64 kd, .slice Av nv cv, .slice Ac nc cc, .int .i64 bd, .slice Ar nr cr] 90)).cell? ⟨wr.heap.size, 3, none⟩ = some (.int .i64 bd) by go_simp)
      have Z4 := Lib.hid (show (wr.alloc (.cells #[.int .i64 kd, .slice Av nv cv, .slice Ac nc cc, .int .i64 bd, .slice Ar nr cr] 90)).cell? ⟨wr.heap.size, 4, none⟩ = some (.slice Ar nr cr) by go_simp)
      have CX4 := Lib.hid (CXk.out.bel hal)
      have TI4 := Lib.hid (TIk.out.kept (gb_of hal) oth_none)
      have ER4 := Lib.hid (ERk.out.kept (gb_of hal) oth_none)
      have M4 := Lib.hid (Mk.out.below hal)
      have TV4 := Lib.hid (TV.out.kept (gb_of hal) oth_none)
      have TC4 := Lib.hid (TC.out.kept (gb_of hal) oth_none)
      have TR4 := Lib.hid (TR.out.kept (gb_of hal) oth_none)
      have hz4r : wr.heap.size < (wr.alloc (.cells #[.int .i64 kd, .slice Av nv cv, .slice Ac nc cc, .int .i64 bd, .slice Ar nr cr] 90)).heap.size := by simp
      go_upto_region 6 with fail
      clear hal x0 x1 x2 x3 x4 m1 m1f CXk TIk ERk Mk TV TC TR
      obtain ⟨Bx, hBx⟩ : ∃ Bx, wr.heap.size = Bx := ⟨_, rfl⟩
      rw [hBx] at Z0 Z1 Z2 Z3 Z4 ER4 hz4r ⊢
      have hzB : X < Bx ∧ w.heap.size + 1 < Bx := by omega
      generalize (wr.alloc (.cells #[.int .i64 kd, .slice Av nv cv, .slice Ac nc cc, .int .i64 bd, .slice Ar nr cr] 90)) = w4 at *
      refine region_steps (J := fun _ L a' w' => ∃ u6 u25 u26 u27 u28 u29 u30 u31 u32 u33 u34 u35 u36 u37 : Value, a' = ⟨#[.agg #[.slice A0 sn cap0, .slice (some ⟨g, 0, none⟩) n cap1], .pointer (some ⟨w.heap.size, 0, none⟩), .pointer (some ⟨w.heap.size + 1, 0, none⟩), .pointer (some ⟨X, 0, none⟩), .int .i64 i, .pointer (some ⟨Bx, 0, none⟩), u6, u7, .slice (some ⟨w.heap.size + 1 + 1, 0, none⟩) 0 0, .pointer (some ⟨w.heap.size, 0, none⟩), .slice A0 sn cap0, .slice As sn cs, .agg #[.slice As sn cs, .slice none 0 0], .int .i64 i, .pointer (some ⟨w.heap.size, 1, none⟩), .slice (some ⟨g, 0, none⟩) n cap1, .int .i64 n, .bool true, u18, u19, .pointer (some ⟨w.heap.size, 1, none⟩), .slice (some ⟨g, 0, none⟩) n cap1, .int .i64 i, .pointer (some ⟨g, i * 5, none⟩), .agg #[.int .i64 kd, .slice Av nv cv, .slice Ac nc cc, .int .i64 bd, .slice Ar nr cr], u25, u26, u27, u28, u29, u30, u31, u32, u33, u34, u35, u36, u37, u38, u39, u40, u41, u42, u43, u44, u45, u46, u47, u48, u49, u50, u51, u52, u53, u54, u55, u56, u57, u58, u59, u60, u61, u62, undef], []⟩ ∧ F6 w4 Bx kd bd nv nc Av Ac cv cc L w' u6 u25 u26 u27 u28 u29 u30 u31 u32 u33 u34 u35 u36 u37) [[], [0], [], [], [3], [2, 4], [], [], [7], [6, 8, 5], [], [10], [1, 5, 9, 11], [], [0, 1, 2, 3, 4, 5, 6, 7, 8, 9, 10, 11, 12, 13]] (by kernel_rfl) (by kernel_rfl) ?_ ⟨?_, ?_, ?_, ?_, ?_, ?_, ?_, ?_, ?_, ?_, ?_, ?_, ?_, ?_, ?_, trivial⟩ ?_
      · intro L hL
        exact ⟨_, _, _, _, _, _, _, _, _, _, _, _, _, _, rfl, ⟨(Below.refl w4.heap.size w4).drew, fun h => tf h (hL 0 (by decide)), fun h => tf h (hL 1 (by decide)), fun h => tf h (hL 2 (by decide)), fun h => tf h (hL 3 (by decide)), fun h => tf h (hL 4 (by decide)), fun h => tf h (hL 5 (by decide)), fun h => tf h (hL 6 (by decide)), fun h => tf h (hL 7 (by decide)), fun h => tf h (hL 8 (by decide)), fun h => tf h (hL 9 (by decide)), fun h => tf h (hL 10 (by decide)), fun h => tf h (hL 11 (by decide)), fun h => tf h (hL 12 (by decide)), fun h => tf h (hL 13 (by decide)), fun h _ => tf h (hL 2 (by decide)), fun h _ => tf h (hL 5 (by decide))⟩⟩
      · intro L hL hd hc a w hI K' hK'
        obtain ⟨u6, u25, u26, u27, u28, u29, u30, u31, u32, u33, u34, u35, u36, u37, rfl, hF⟩ := hI
        go_simp
        refine hK' _ _ ⟨_, _, _, _, _, _, _, _, _, _, _, _, _, _, rfl, ⟨hF.bel, fun _ => rfl, hF.a1, hF.a2, hF.a3, hF.a4, hF.a5, hF.a6, hF.a7, hF.a8, hF.a9, hF.a10, hF.a11, hF.a12, hF.a13, hF.s1, hF.s2⟩⟩
      · intro L hL hd hc a w hI K' hK'
        obtain ⟨u6, u25, u26, u27, u28, u29, u30, u31, u32, u33, u34, u35, u36, u37, rfl, hF⟩ := hI
        obtain rfl := hF.a0 (hd 0 (by simp))
        have z := kc hF.bel Z0.out
        go_simp
        refine hK' _ _ ⟨_, _, _, _, _, _, _, _, _, _, _, _, _, _, rfl, ⟨hF.bel, hF.a0, fun _ => rfl, hF.a2, hF.a3, hF.a4, hF.a5, hF.a6, hF.a7, hF.a8, hF.a9, hF.a10, hF.a11, hF.a12, hF.a13, hF.s1, hF.s2⟩⟩
      · intro L hL hd hc a w hI K' hK'
        obtain ⟨u6, u25, u26, u27, u28, u29, u30, u31, u32, u33, u34, u35, u36, u37, rfl, hF⟩ := hI
        have hN := hF.new (bl_alloc (Below.refl w.heap.size w) (.cells #[] 3))
        go_simp
        refine hK' _ _ ⟨_, _, _, _, _, _, _, _, _, _, _, _, _, _, rfl, ⟨hN.bel, hN.a0, hN.a1, fun _ => ⟨_, rfl, hF.bel.size, by simp, fun _ => heap_alloc_new _ _⟩, hN.a3, hN.a4, hN.a5, hN.a6, hN.a7, hN.a8, hN.a9, hN.a10, hN.a11, hN.a12, hN.a13, fun _ h6 p q e1 e2 => by cases e1; obtain ⟨q', e3, _, h5, _⟩ := hF.a6 h6; rw [e3] at e2; cases e2; exact fun e => by omega, hN.s2⟩⟩
      · intro L hL hd hc a w hI K' hK'
        obtain ⟨u6, u25, u26, u27, u28, u29, u30, u31, u32, u33, u34, u35, u36, u37, rfl, hF⟩ := hI
        go_simp
        refine hK' _ _ ⟨_, _, _, _, _, _, _, _, _, _, _, _, _, _, rfl, ⟨hF.bel, hF.a0, hF.a1, hF.a2, fun _ => rfl, hF.a4, hF.a5, hF.a6, hF.a7, hF.a8, hF.a9, hF.a10, hF.a11, hF.a12, hF.a13, hF.s1, hF.s2⟩⟩
      · intro L hL hd hc a w hI K' hK'
        obtain ⟨u6, u25, u26, u27, u28, u29, u30, u31, u32, u33, u34, u35, u36, u37, rfl, hF⟩ := hI
        obtain rfl := hF.a3 (hd 3 (by simp))
        have z := kc hF.bel Z1.out
        go_simp
        refine hK' _ _ ⟨_, _, _, _, _, _, _, _, _, _, _, _, _, _, rfl, ⟨hF.bel, hF.a0, hF.a1, hF.a2, hF.a3, fun _ => rfl, hF.a5, hF.a6, hF.a7, hF.a8, hF.a9, hF.a10, hF.a11, hF.a12, hF.a13, hF.s1, hF.s2⟩⟩
      · intro L hL hd hc a w hI K' hK'
        obtain ⟨u6, u25, u26, u27, u28, u29, u30, u31, u32, u33, u34, u35, u36, u37, rfl, hF⟩ := hI
        obtain ⟨p, rfl, p1, p2, p3⟩ := hF.a2 (hd 2 (by simp))
        obtain rfl := hF.a4 (hd 4 (by simp))
        have hp := p3 hL
        refine wp_cpI (U := .slice Av nv cv) _ _ (by rfl) (by rfl) (by rfl) (by rfl) (ts_lit8 hp) (TV4.out.kept (gb_of hF.bel) oth_none) (by omega) (by omega) ?_
        intro A9 c9 wv hts hgr hob
        have hsz := hgr.size
        go_simp
        refine hK' _ _ ⟨_, _, _, _, _, _, _, _, _, _, _, _, _, _, rfl, ⟨hF.bel.grown hgr hF.bel.size (fun b e => by cases e; exact p1), hF.a0, hF.a1, fun _ => ⟨_, rfl, p1, by omega, fun h => tf (show true = true from rfl) h⟩, hF.a3, hF.a4, fun _ => ⟨_, _, rfl, ts_more hts p1⟩, fun h6 => by obtain ⟨q, e, h1, h2, h3⟩ := hF.a6 h6; exact ⟨q, e, h1, by omega, fun h9 => (hgr.block q h2 (by intro e'; simp only [Value.ownBlock, Option.some.injEq] at e'; exact hF.s1 (hd 2 (by simp)) h6 _ _ rfl e e'.symm)).trans (h3 h9)⟩, hF.a7, hF.a8, fun h9 => tf (hc 9 5 (by simp) h9) hL, hF.a10, hF.a11, fun h => tf (hc 12 5 (by simp) h) hL, fun h13 => by obtain ⟨q, e, h1, h2, h3, _⟩ := hF.a13 h13; exact ⟨q, e, h1, by omega, fun h14 => (hgr.block q h2 (by intro e'; simp only [Value.ownBlock, Option.some.injEq] at e'; subst e'; have := (h3 h14).symm.trans hp; cases this)).trans (h3 h14), fun h14 => tf (hc 14 5 (by simp) h14) hL⟩, hF.s1, fun _ h6 q e _ => by obtain ⟨q', e3, _, h5, _⟩ := hF.a6 h6; rw [e3] at e; cases e; have := hF.s1 (hd 2 (by simp)) h6 _ _ rfl e3; rcases hob with h | h <;> (rw [h]; simp only [Value.ownBlock, ne_eq, Option.some.injEq]; omega)⟩⟩
      · intro L hL hd hc a w hI K' hK'
        obtain ⟨u6, u25, u26, u27, u28, u29, u30, u31, u32, u33, u34, u35, u36, u37, rfl, hF⟩ := hI
        have hN := hF.new (bl_alloc (Below.refl w.heap.size w) (.cells #[] 3))
        go_simp
        refine hK' _ _ ⟨_, _, _, _, _, _, _, _, _, _, _, _, _, _, rfl, ⟨hN.bel, hN.a0, hN.a1, hN.a2, hN.a3, hN.a4, hN.a5, fun _ => ⟨_, rfl, hF.bel.size, by simp, fun _ => heap_alloc_new _ _⟩, hN.a7, hN.a8, hN.a9, hN.a10, hN.a11, hN.a12, hN.a13, fun h2 _ p q e1 e2 => by cases e2; obtain ⟨p', e3, _, h5, _⟩ := hF.a2 h2; rw [e3] at e1; cases e1; exact fun e => by omega, fun h5 _ q e _ => by cases e; obtain ⟨A, c, e3, h7⟩ := hF.a5 h5; rw [e3]; intro e4; have := (h7.lt2 _ e4).2; omega⟩⟩
      · intro L hL hd hc a w hI K' hK'
        obtain ⟨u6, u25, u26, u27, u28, u29, u30, u31, u32, u33, u34, u35, u36, u37, rfl, hF⟩ := hI
        go_simp
        refine hK' _ _ ⟨_, _, _, _, _, _, _, _, _, _, _, _, _, _, rfl, ⟨hF.bel, hF.a0, hF.a1, hF.a2, hF.a3, hF.a4, hF.a5, hF.a6, fun _ => rfl, hF.a8, hF.a9, hF.a10, hF.a11, hF.a12, hF.a13, hF.s1, hF.s2⟩⟩
      · intro L hL hd hc a w hI K' hK'
        obtain ⟨u6, u25, u26, u27, u28, u29, u30, u31, u32, u33, u34, u35, u36, u37, rfl, hF⟩ := hI
        obtain rfl := hF.a7 (hd 7 (by simp))
        have z := kc hF.bel Z2.out
        go_simp
        refine hK' _ _ ⟨_, _, _, _, _, _, _, _, _, _, _, _, _, _, rfl, ⟨hF.bel, hF.a0, hF.a1, hF.a2, hF.a3, hF.a4, hF.a5, hF.a6, hF.a7, fun _ => rfl, hF.a9, hF.a10, hF.a11, hF.a12, hF.a13, hF.s1, hF.s2⟩⟩
      · intro L hL hd hc a w hI K' hK'
        obtain ⟨u6, u25, u26, u27, u28, u29, u30, u31, u32, u33, u34, u35, u36, u37, rfl, hF⟩ := hI
        obtain ⟨p, rfl, p1, p2, p3⟩ := hF.a6 (hd 6 (by simp))
        obtain rfl := hF.a8 (hd 8 (by simp))
        have hp := p3 hL
        refine wp_cpI (U := .slice Ac nc cc) _ _ (by rfl) (by rfl) (by rfl) (by rfl) (ts_lit8 hp) (TC4.out.kept (gb_of hF.bel) oth_none) (by omega) (by omega) ?_
        intro A9 c9 wv hts hgr hob
        have hsz := hgr.size
        go_simp
        refine hK' _ _ ⟨_, _, _, _, _, _, _, _, _, _, _, _, _, _, rfl, ⟨hF.bel.grown hgr hF.bel.size (fun b e => by cases e; exact p1), hF.a0, hF.a1, fun h2 => by obtain ⟨q, e, h1, h2', h3⟩ := hF.a2 h2; exact ⟨q, e, h1, by omega, fun h5 => tf (hd 5 (by simp)) h5⟩, hF.a3, hF.a4, fun h5 => by obtain ⟨A, c, e, h1⟩ := hF.a5 h5; refine ⟨A, c, e, ts_kept h1 hgr (fun j ej er => ?_)⟩; simp only [Value.ownBlock, Option.some.injEq] at er; subst er; exact hF.s2 h5 (hd 6 (by simp)) _ rfl hL (by rw [e]; exact ej), fun _ => ⟨_, rfl, p1, by omega, fun h => tf (show true = true from rfl) h⟩, hF.a7, hF.a8, fun _ => ⟨_, _, rfl, ts_more hts p1⟩, hF.a10, hF.a11, fun h => tf (hc 12 9 (by simp) h) hL, fun h13 => by obtain ⟨q, e, h1, h2, h3, _⟩ := hF.a13 h13; exact ⟨q, e, h1, by omega, fun h14 => (hgr.block q h2 (by intro e'; simp only [Value.ownBlock, Option.some.injEq] at e'; subst e'; have := (h3 h14).symm.trans hp; cases this)).trans (h3 h14), fun h14 => tf (hc 14 9 (by simp) h14) hL⟩, hF.s1, fun _ _ _ _ h => tf (show true = true from rfl) h⟩⟩
      · intro L hL hd hc a w hI K' hK'
        obtain ⟨u6, u25, u26, u27, u28, u29, u30, u31, u32, u33, u34, u35, u36, u37, rfl, hF⟩ := hI
        go_simp
        refine hK' _ _ ⟨_, _, _, _, _, _, _, _, _, _, _, _, _, _, rfl, ⟨hF.bel, hF.a0, hF.a1, hF.a2, hF.a3, hF.a4, hF.a5, hF.a6, hF.a7, hF.a8, hF.a9, fun _ => rfl, hF.a11, hF.a12, hF.a13, hF.s1, hF.s2⟩⟩
      · intro L hL hd hc a w hI K' hK'
        obtain ⟨u6, u25, u26, u27, u28, u29, u30, u31, u32, u33, u34, u35, u36, u37, rfl, hF⟩ := hI
        obtain rfl := hF.a10 (hd 10 (by simp))
        have z := kc hF.bel Z3.out
        go_simp
        refine hK' _ _ ⟨_, _, _, _, _, _, _, _, _, _, _, _, _, _, rfl, ⟨hF.bel, hF.a0, hF.a1, hF.a2, hF.a3, hF.a4, hF.a5, hF.a6, hF.a7, hF.a8, hF.a9, hF.a10, fun _ => rfl, hF.a12, hF.a13, hF.s1, hF.s2⟩⟩
      · intro L hL hd hc a w hI K' hK'
        obtain ⟨u6, u25, u26, u27, u28, u29, u30, u31, u32, u33, u34, u35, u36, u37, rfl, hF⟩ := hI
        obtain rfl := hF.a1 (hd 1 (by simp))
        obtain ⟨A8, c8, rfl, t8⟩ := hF.a5 (hd 5 (by simp))
        obtain ⟨A9, c9, rfl, t9⟩ := hF.a9 (hd 9 (by simp))
        obtain rfl := hF.a11 (hd 11 (by simp))
        go_simp
        refine hK' _ _ ⟨_, _, _, _, _, _, _, _, _, _, _, _, _, _, rfl, ⟨hF.bel, hF.a0, hF.a1, hF.a2, hF.a3, hF.a4, hF.a5, hF.a6, hF.a7, hF.a8, hF.a9, hF.a10, hF.a11, fun _ => rfl, hF.a13, hF.s1, hF.s2⟩⟩
      · intro L hL hd hc a w hI K' hK'
        obtain ⟨u6, u25, u26, u27, u28, u29, u30, u31, u32, u33, u34, u35, u36, u37, rfl, hF⟩ := hI
        have hN := hF.new (bl_alloc (Below.refl w.heap.size w) (.cells #[.int .i64 0, .slice none 0 0, .slice none 0 0, .int .i64 0, .slice none 0 0] 90))
        go_simp
        refine hK' _ _ ⟨_, _, _, _, _, _, _, _, _, _, _, _, _, _, rfl, ⟨hN.bel, hN.a0, hN.a1, hN.a2, hN.a3, hN.a4, hN.a5, hN.a6, hN.a7, hN.a8, hN.a9, hN.a10, hN.a11, hN.a12, fun _ => ⟨_, rfl, hF.bel.size, by simp, fun _ => heap_alloc_new _ _, fun h14 => tf (hc 14 13 (by simp) h14) hL⟩, hN.s1, hN.s2⟩⟩
      · intro L hL hd hc a w hI K' hK'
        obtain ⟨u6, u25, u26, u27, u28, u29, u30, u31, u32, u33, u34, u35, u36, u37, rfl, hF⟩ := hI
        obtain ⟨A8, c8, rfl, t8⟩ := hF.a5 (hd 5 (by simp))
        obtain ⟨A9, c9, rfl, t9⟩ := hF.a9 (hd 9 (by simp))
        obtain rfl := hF.a12 (hd 12 (by simp))
        obtain ⟨p, rfl, p1, p2, p3, _⟩ := hF.a13 (hd 13 (by simp))
        have hp := p3 hL
        refine wp_st5 _ _ (by rfl) rfl rfl rfl (by rfl) (by rfl) (by rfl) (by rfl) (by rfl) hp ?_
        intro W5 q0 q1 q2 q3 q4 hgr hts _
        have hsz := hgr.size
        have n1 := st_ne t8 hp (by decide)
        have n2 := st_ne t9 hp (by decide)
        go_simp
        refine hK' _ _ ⟨_, _, _, _, _, _, _, _, _, _, _, _, _, _, rfl, ⟨hF.bel.grown hgr hF.bel.size (fun b e => by cases e; exact p1), hF.a0, hF.a1, fun h2 => by obtain ⟨q, e, h1, h2', h3⟩ := hF.a2 h2; exact ⟨q, e, h1, by omega, fun h5 => tf (hd 5 (by simp)) h5⟩, hF.a3, hF.a4, fun _ => ⟨_, _, rfl, hts _ _ _ t8⟩, fun h2 => by obtain ⟨q, e, h1, h2', h3⟩ := hF.a6 h2; exact ⟨q, e, h1, by omega, fun h5 => tf (hd 9 (by simp)) h5⟩, hF.a7, hF.a8, fun _ => ⟨_, _, rfl, hts _ _ _ t9⟩, hF.a10, hF.a11, hF.a12, fun _ => ⟨_, rfl, p1, by omega, fun h => tf (show true = true from rfl) h, fun _ => ⟨q0, q1, q2, q3, q4, n1, n2⟩⟩, hF.s1, hF.s2⟩⟩
      · intro L hL a' w5 hI
        obtain ⟨u6, u25, u26, u27, u28, u29, u30, u31, u32, u33, u34, u35, u36, u37, rfl, hF⟩ := hI
        obtain ⟨A8, c8, rfl, t8⟩ := hF.a5 (hL 5)
        obtain ⟨A9, c9, rfl, t9⟩ := hF.a9 (hL 9)
        obtain ⟨Yb, rfl, y1, y2, -, hq⟩ := hF.a13 (hL 13)
        obtain ⟨q0, q1, q2, q3, q4, n1, n2⟩ := hq (hL 14)
        have HB5 := Lib.hid hF.bel
        have Q0 := Lib.hid q0
        have Q1 := Lib.hid q1
        have Q2 := Lib.hid q2
        have Q3 := Lib.hid q3
        have Q4 := Lib.hid q4
        have T8 := Lib.hid (t8.ti (Nat.le_refl _))
        have T9 := Lib.hid (t9.ti (Nat.le_refl _))
        clear hF hL q0 q1 q2 q3 q4 t8 t9 hq
        have ZY := Lib.hid (show YB w4 w5 w5.heap.size Yb kd bd (.slice A8 nv c8) (.slice A9 nc c9) nv nc (.slice none 0 0) 0 from ⟨HB5.out, Q0.out, Q1.out, Q2.out, Q3.out, Q4.out, T8.out, T9.out, EL.nil, n1, n2, y1, y2, Nat.le_refl _⟩)
        clear Q0 Q1 Q2 Q3 Q4 T8 T9 n1 n2 TV4 TC4 Z0 Z1 Z2 Z3
        obtain ⟨L5, hL5⟩ : ∃ L5, w5.heap.size = L5 := ⟨_, rfl⟩
        rw [hL5] at ZY
        have m5 := HB5.out.size
        rw [hL5] at m5
        go_wp2
        go_loopw [7] (fun c wq => ∃ (k : Nat) (ov : Value), k ≤ nr ∧ c = .int .i64 k ∧ YB w4 wq L5 Yb kd bd (.slice A8 nv c8) (.slice A9 nc c9) nv nc ov k) (fun c _ => nr - (intOf c).toNat)
        case atStart => exact ⟨0, _, Nat.zero_le _, rfl, ZY.out⟩
        case round =>
          obtain ⟨k, ovk, hk, rfl, hyb⟩ := hrel
          have YBk := Lib.hid hyb
          obtain ⟨Ak, capk, rfl⟩ := hyb.el.head
          have z4 := kc hyb.bl Z4.out
          clear hyb ZY
          by_cases hkl : k < nr
          · have hkl' : (k : Int) < (nr : Int) := by omega
            have hk0 : (0 : Int) ≤ (k : Int) := by omega
            have ht := TR4.out.kept (gb_of YBk.out.bl) oth_none
            obtain ⟨g2, cp2, Ae, ne, ce, e, hne, hcell, hte⟩ := el_at ht hkl
            cases e
            have TE := Lib.hid hte
            have HE := Lib.hid hcell
            clear ht hte hcell
            go_upto_region 10 with fail
            have HNe : ∀ b, (Value.slice Ak k capk).ownBlock = some b → b ≠ Yb := fun b e => by obtain ⟨xs, h0, -⟩ := YBk.out.el; have := (h0.lt b e).1; have := YBk.out.hL; omega
            have y4a := YBk.out.y4.1
            refine region_steps (J := fun _ L a' w' => ∃ u45 u46 u47 u48 u49 u50 u51 u52 u53 u54 u55 u56 : Value, a' = ⟨#[.agg #[.slice A0 sn cap0, .slice (some ⟨g, 0, none⟩) n cap1], .pointer (some ⟨w.heap.size, 0, none⟩), .pointer (some ⟨w.heap.size + 1, 0, none⟩), .pointer (some ⟨X, 0, none⟩), .int .i64 i, .pointer (some ⟨Bx, 0, none⟩), .pointer (some ⟨Yb, 0, none⟩), .int .i64 k, .slice (some ⟨w.heap.size + 1 + 1, 0, none⟩) 0 0, .pointer (some ⟨w.heap.size, 0, none⟩), .slice A0 sn cap0, .slice As sn cs, .agg #[.slice As sn cs, .slice none 0 0], .int .i64 i, .pointer (some ⟨w.heap.size, 1, none⟩), .slice (some ⟨g, 0, none⟩) n cap1, .int .i64 n, .bool true, u18, u19, .pointer (some ⟨w.heap.size, 1, none⟩), .slice (some ⟨g, 0, none⟩) n cap1, .int .i64 i, .pointer (some ⟨g, i * 5, none⟩), .agg #[.int .i64 kd, .slice Av nv cv, .slice Ac nc cc, .int .i64 bd, .slice (some ⟨g2, 0, none⟩) nr cr], u25, u26, u27, u28, u29, .slice A8 nv c8, u31, u32, u33, .slice A9 nc c9, u35, u36, u37, .int .i64 k, .pointer (some ⟨Bx, 4, none⟩), .slice (some ⟨g2, 0, none⟩) nr cr, .int .i64 nr, .bool true, u43, u44, u45, u46, u47, u48, u49, u50, u51, u52, u53, u54, u55, u56, u57, u58, u59, u60, u61, u62, undef], []⟩ ∧ F10 wr Yb Bx k Ak capk g2 nr cr Ae ne ce L5 L w' u45 u46 u47 u48 u49 u50 u51 u52 u53 u54 u55 u56) [[], [0], [], [], [3], [], [4, 5], [6], [2, 7], [8], [1, 9, 8], [0, 1, 2, 3, 4, 5, 6, 7, 8, 9, 10], [11, 10]] (by kernel_rfl) (by kernel_rfl) ?_ ⟨?_, ?_, ?_, ?_, ?_, ?_, ?_, ?_, ?_, ?_, ?_, ?_, ?_, trivial⟩ ?_
            · intro L hL
              exact ⟨_, _, _, _, _, _, _, _, _, _, _, _, rfl, ⟨fun _ => (Below.refl wr.heap.size wr).drew, fun h => tf h (hL 0 (by decide)), fun h => tf h (hL 1 (by decide)), fun h => tf h (hL 2 (by decide)), fun h => tf h (hL 3 (by decide)), fun h => tf h (hL 4 (by decide)), fun h => tf h (hL 5 (by decide)), fun h => tf h (hL 6 (by decide)), fun h => tf h (hL 7 (by decide)), fun h => tf h (hL 8 (by decide)), fun h => tf h (hL 9 (by decide)), fun h => tf h (hL 10 (by decide)), fun h => tf h (hL 11 (by decide))⟩⟩
            · intro L hL hd hc a w hI K' hK'
              obtain ⟨u45, u46, u47, u48, u49, u50, u51, u52, u53, u54, u55, u56, rfl, hF⟩ := hI
              have hn : L 10 = false := by
                cases h : L 10 with
                | false => rfl
                | true => exact tf (hc 1 0 (by simp) (hc 10 1 (by simp) h)) hL
              go_simp
              refine hK' _ _ ⟨_, _, _, _, _, _, _, _, _, _, _, _, rfl, ⟨hF.bel, fun _ => rfl, hF.b1, hF.b2, hF.b3, hF.b4, hF.b5, hF.b6, hF.b7, hF.b8, hF.b9, fun h => tf h hn, hF.b11⟩⟩
            · intro L hL hd hc a w hI K' hK'
              obtain ⟨u45, u46, u47, u48, u49, u50, u51, u52, u53, u54, u55, u56, rfl, hF⟩ := hI
              have hn : L 10 = false := by
                cases h : L 10 with
                | false => rfl
                | true => exact tf (hc 10 1 (by simp) h) hL
              obtain rfl := hF.b0 (hd 0 (by simp))
              have z := kc (hF.bel hn) y4a
              go_simp
              refine hK' _ _ ⟨_, _, _, _, _, _, _, _, _, _, _, _, rfl, ⟨hF.bel, hF.b0, fun _ => rfl, hF.b2, hF.b3, hF.b4, hF.b5, hF.b6, hF.b7, hF.b8, hF.b9, fun h => tf h hn, hF.b11⟩⟩
            · intro L hL hd hc a w hI K' hK'
              obtain ⟨u45, u46, u47, u48, u49, u50, u51, u52, u53, u54, u55, u56, rfl, hF⟩ := hI
              have hn : L 10 = false := by
                cases h : L 10 with
                | false => rfl
                | true => exact tf (hc 8 2 (by simp) (hc 10 8 (by simp) h)) hL
              go_simp
              refine hK' _ _ ⟨_, _, _, _, _, _, _, _, _, _, _, _, rfl, ⟨fun _ => bl_alloc (hF.bel hn) _, hF.b0, hF.b1, fun _ => ⟨_, rfl, (hF.bel hn).size, fun _ => heap_alloc_new _ _⟩, hF.b3, hF.b4, hF.b5, hF.b6, hF.b7, fun h => tf (hc 8 2 (by simp) h) hL, fun h => tf (hc 8 2 (by simp) (hc 9 8 (by simp) h)) hL, fun h => tf h hn, hF.b11⟩⟩
            · intro L hL hd hc a w hI K' hK'
              obtain ⟨u45, u46, u47, u48, u49, u50, u51, u52, u53, u54, u55, u56, rfl, hF⟩ := hI
              have hn : L 10 = false := by
                cases h : L 10 with
                | false => rfl
                | true => exact tf (hc 4 3 (by simp) (hc 6 4 (by simp) (hc 7 6 (by simp) (hc 8 7 (by simp) (hc 10 8 (by simp) h))))) hL
              go_simp
              refine hK' _ _ ⟨_, _, _, _, _, _, _, _, _, _, _, _, rfl, ⟨hF.bel, hF.b0, hF.b1, hF.b2, fun _ => rfl, hF.b4, hF.b5, hF.b6, hF.b7, hF.b8, hF.b9, fun h => tf h hn, hF.b11⟩⟩
            · intro L hL hd hc a w hI K' hK'
              obtain ⟨u45, u46, u47, u48, u49, u50, u51, u52, u53, u54, u55, u56, rfl, hF⟩ := hI
              have hn : L 10 = false := by
                cases h : L 10 with
                | false => rfl
                | true => exact tf (hc 6 4 (by simp) (hc 7 6 (by simp) (hc 8 7 (by simp) (hc 10 8 (by simp) h)))) hL
              obtain rfl := hF.b3 (hd 3 (by simp))
              have z := kc (hF.bel hn) z4
              go_simp
              refine hK' _ _ ⟨_, _, _, _, _, _, _, _, _, _, _, _, rfl, ⟨hF.bel, hF.b0, hF.b1, hF.b2, hF.b3, fun _ => rfl, hF.b5, hF.b6, hF.b7, hF.b8, hF.b9, fun h => tf h hn, hF.b11⟩⟩
            · intro L hL hd hc a w hI K' hK'
              obtain ⟨u45, u46, u47, u48, u49, u50, u51, u52, u53, u54, u55, u56, rfl, hF⟩ := hI
              have hn : L 10 = false := by
                cases h : L 10 with
                | false => rfl
                | true => exact tf (hc 6 5 (by simp) (hc 7 6 (by simp) (hc 8 7 (by simp) (hc 10 8 (by simp) h)))) hL
              go_simp
              refine hK' _ _ ⟨_, _, _, _, _, _, _, _, _, _, _, _, rfl, ⟨hF.bel, hF.b0, hF.b1, hF.b2, hF.b3, hF.b4, fun _ => rfl, hF.b6, hF.b7, hF.b8, hF.b9, fun h => tf h hn, hF.b11⟩⟩
            · intro L hL hd hc a w hI K' hK'
              obtain ⟨u45, u46, u47, u48, u49, u50, u51, u52, u53, u54, u55, u56, rfl, hF⟩ := hI
              have hn : L 10 = false := by
                cases h : L 10 with
                | false => rfl
                | true => exact tf (hc 7 6 (by simp) (hc 8 7 (by simp) (hc 10 8 (by simp) h))) hL
              obtain rfl := hF.b4 (hd 4 (by simp))
              obtain rfl := hF.b5 (hd 5 (by simp))
              go_simp
              refine hK' _ _ ⟨_, _, _, _, _, _, _, _, _, _, _, _, rfl, ⟨hF.bel, hF.b0, hF.b1, hF.b2, hF.b3, hF.b4, hF.b5, fun _ => rfl, hF.b7, hF.b8, hF.b9, fun h => tf h hn, hF.b11⟩⟩
            · intro L hL hd hc a w hI K' hK'
              obtain ⟨u45, u46, u47, u48, u49, u50, u51, u52, u53, u54, u55, u56, rfl, hF⟩ := hI
              have hn : L 10 = false := by
                cases h : L 10 with
                | false => rfl
                | true => exact tf (hc 8 7 (by simp) (hc 10 8 (by simp) h)) hL
              obtain rfl := hF.b6 (hd 6 (by simp))
              have z := kc (hF.bel hn) HE.out
              go_simp
              refine hK' _ _ ⟨_, _, _, _, _, _, _, _, _, _, _, _, rfl, ⟨hF.bel, hF.b0, hF.b1, hF.b2, hF.b3, hF.b4, hF.b5, hF.b6, fun _ => rfl, hF.b8, hF.b9, fun h => tf h hn, hF.b11⟩⟩
            · intro L hL hd hc a w hI K' hK'
              obtain ⟨u45, u46, u47, u48, u49, u50, u51, u52, u53, u54, u55, u56, rfl, hF⟩ := hI
              have hn : L 10 = false := by
                cases h : L 10 with
                | false => rfl
                | true => exact tf (hc 10 8 (by simp) h) hL
              obtain ⟨p, rfl, p1, p2⟩ := hF.b2 (hd 2 (by simp))
              obtain rfl := hF.b7 (hd 7 (by simp))
              have hp := p2 hL
              have hpl := (Array.getElem?_eq_some_iff.1 hp).1
              refine wp_cpI (U := .slice Ae ne ce) _ _ (by rfl) (by rfl) (by rfl) (by rfl) (ts_lit8 hp) (TE.out.kept (gb_of (hF.bel hn)) oth_none) (by omega) (by omega) ?_
              intro A9 c9 wv hts hgr hob
              have hsz := hgr.size
              go_simp
              refine hK' _ _ ⟨_, _, _, _, _, _, _, _, _, _, _, _, rfl, ⟨fun _ => (hF.bel hn).grown hgr (hF.bel hn).size (fun b e => by cases e; exact p1), hF.b0, hF.b1, fun _ => ⟨_, rfl, p1, fun h => tf (show true = true from rfl) h⟩, hF.b3, hF.b4, hF.b5, hF.b6, hF.b7, fun _ => ⟨_, _, rfl, fun _ => ts_more hts p1⟩, fun h => tf (hc 9 8 (by simp) h) hL, fun h => tf h hn, hF.b11⟩⟩
            · intro L hL hd hc a w hI K' hK'
              obtain ⟨u45, u46, u47, u48, u49, u50, u51, u52, u53, u54, u55, u56, rfl, hF⟩ := hI
              have hn : L 10 = false := by
                cases h : L 10 with
                | false => rfl
                | true => exact tf (hc 10 9 (by simp) h) hL
              obtain ⟨A, c, rfl, t8⟩ := hF.b8 (hd 8 (by simp))
              go_simp
              refine hK' _ _ ⟨_, _, _, _, _, _, _, _, _, _, _, _, rfl, ⟨fun _ => bl_alloc (hF.bel hn) _, hF.b0, hF.b1, fun h2 => by obtain ⟨p, e, p1, _⟩ := hF.b2 h2; exact ⟨p, e, p1, fun h => tf (hd 8 (by simp)) h⟩, hF.b3, hF.b4, hF.b5, hF.b6, hF.b7, fun _ => ⟨_, _, rfl, fun _ => (t8 hn).bel (bl_alloc (Below.refl _ _) _)⟩, fun _ => ⟨_, rfl, fun _ => heap_alloc_new _ _⟩, fun h => tf h hn, hF.b11⟩⟩
            · intro L hL hd hc a w hI K' hK'
              obtain ⟨u45, u46, u47, u48, u49, u50, u51, u52, u53, u54, u55, u56, rfl, hF⟩ := hI
              obtain rfl := hF.b1 (hd 1 (by simp))
              obtain ⟨A, c, rfl, t8⟩ := hF.b8 (hd 8 (by simp))
              obtain ⟨p, rfl, hp⟩ := hF.b9 (hd 9 (by simp))
              have hbl := (hF.bel hL).size
              have hs5 := YBk.out.hs
              refine wp_el1 (k := k) (U := .slice A ne c) (m := ne) (lo := L5) (hi := w.heap.size) (N := 22) _ _ (by rfl) ((YBk.out.el.kept (gb_of (hF.bel hL)) oth_none).more (Nat.le_refl _) hbl (Nat.le_refl _)) (Nat.le_trans hs5 hbl) (by rfl) (by rfl) (hp hL) (((t8 hL).ti (Nat.le_refl _)).more hs5 (Nat.le_refl _)) hne (by omega) ?_ (Nat.le_refl _)
              intro gg c7 w7 hel hgr hown hsz
              go_simp
              refine hK' _ _ ⟨_, _, _, _, _, _, _, _, _, _, _, _, rfl, ⟨fun h => tf (show true = true from rfl) h, hF.b0, hF.b1, fun h2 => by obtain ⟨p, e, p1, _⟩ := hF.b2 h2; exact ⟨p, e, p1, fun h => tf (hd 8 (by simp)) h⟩, hF.b3, hF.b4, hF.b5, hF.b6, hF.b7, fun _ => ⟨_, _, rfl, fun h => tf (show true = true from rfl) h⟩, fun _ => ⟨_, rfl, fun h => tf (show true = true from rfl) h⟩, fun _ => ⟨gg, c7, rfl, w, w7, hF.bel hL, hgr, hel, fun _ => rfl, fun h => tf (hc 12 10 (by simp) h) hL⟩, hF.b11⟩⟩
            · intro L hL hd hc a w hI K' hK'
              obtain ⟨u45, u46, u47, u48, u49, u50, u51, u52, u53, u54, u55, u56, rfl, hF⟩ := hI
              go_simp
              refine hK' _ _ ⟨_, _, _, _, _, _, _, _, _, _, _, _, rfl, ⟨hF.bel, hF.b0, hF.b1, hF.b2, hF.b3, hF.b4, hF.b5, hF.b6, hF.b7, hF.b8, hF.b9, hF.b10, fun _ => rfl⟩⟩
            · intro L hL hd hc a w hI K' hK'
              obtain ⟨u45, u46, u47, u48, u49, u50, u51, u52, u53, u54, u55, u56, rfl, hF⟩ := hI
              obtain ⟨gg, c7, rfl, w', w'', hb, hgr, hel, e1, -⟩ := hF.b10 (hd 10 (by simp))
              obtain rfl := hF.b11 (hd 11 (by simp))
              obtain rfl := e1 hL
              obtain ⟨y4a, y4b⟩ := (YBk.out.y4.below hb).grow hgr HNe
              go_simp
              go_simp
              refine hK' _ _ ⟨_, _, _, _, _, _, _, _, _, _, _, _, rfl, ⟨fun h => tf (hd 10 (by simp)) h, hF.b0, hF.b1, fun h2 => by obtain ⟨p, e, p1, _⟩ := hF.b2 h2; exact ⟨p, e, p1, fun h => tf (hc 10 8 (by simp) (hd 10 (by simp))) h⟩, hF.b3, hF.b4, hF.b5, hF.b6, hF.b7, fun h2 => by obtain ⟨A, c, e, _⟩ := hF.b8 h2; exact ⟨A, c, e, fun h => tf (hd 10 (by simp)) h⟩, fun h2 => by obtain ⟨p, e, _⟩ := hF.b9 h2; exact ⟨p, e, fun h => tf (hd 10 (by simp)) h⟩, fun _ => ⟨_, _, rfl, w', _, hb, hgr, hel, fun h => tf (show true = true from rfl) h, fun _ => rfl⟩, hF.b11⟩⟩
            · intro L hL a' w6 hI
              obtain ⟨u45, u46, u47, u48, u49, u50, u51, u52, u53, u54, u55, u56, rfl, hF⟩ := hI
              obtain ⟨gg, c7, rfl, w', w'', hb, hgr, hel, -, e2⟩ := hF.b10 (hL 10)
              obtain rfl := e2 (hL 12)
              have YBn := Lib.hid (YBk.out.step hb hgr hel)
              clear hF hb hgr hel e2 hL YBk TE HE
              go_wp2
              go_roundw
              case rel => exact ⟨k + 1, _, by omega, by go_num, YBn.out⟩
              case measure => simp [intOf]; omega
          · obtain rfl : k = nr := by omega
            have bA := Lib.hid (bl_alloc YBk.out.bl (.cells #[.int .i64 kd, .slice A8 nv c8, .slice A9 nc c9, .int .i64 bd, .slice Ak k capk] 90))
            have hA := Lib.hid (bl_alloc (Below.refl wr.heap.size wr) (.cells #[.int .i64 kd, .slice A8 nv c8, .slice A9 nc c9, .int .i64 bd, .slice Ak k capk] 90))
            have sA := bA.out.size
            have sB := hA.out.size
            have s5 := YBk.out.hs
            have hX1 := CX4.out.lt.1
            have HE5 := Lib.hid (show E5 (wr.alloc (.cells #[.int .i64 kd, .slice A8 nv c8, .slice A9 nc c9, .int .i64 bd, .slice Ak k capk] 90)) (X + 1) (wr.alloc (.cells #[.int .i64 kd, .slice A8 nv c8, .slice A9 nc c9, .int .i64 bd, .slice Ak k capk] 90)).heap.size 22 (c5 (.int .i64 kd) (.slice A8 nv c8) (.slice A9 nc c9) (.int .i64 bd) (.slice Ak k capk)) from ⟨kd, bd, nv, nc, k, rfl, rfl, b1, b2, b3, (YBk.out.t1.kept (gb_of hA.out) oth_none).more (by omega) (by omega), (YBk.out.t2.kept (gb_of hA.out) oth_none).more (by omega) (by omega), (YBk.out.el.kept (gb_of hA.out) oth_none).more (by omega) sB (Nat.le_refl _)⟩)
            have HER := Lib.hid (show ER (wr.alloc (.cells #[.int .i64 kd, .slice A8 nv c8, .slice A9 nc c9, .int .i64 bd, .slice Ak k capk] 90)) (X + 1) (wr.alloc (.cells #[.int .i64 kd, .slice A8 nv c8, .slice A9 nc c9, .int .i64 bd, .slice Ak k capk] 90)).heap.size (.slice Ao i capo) i 22 from (ER4.out.kept (gb_of bA.out) oth_none).more (Nat.le_refl _) (by omega) (Nat.le_refl _))
            have CXA := Lib.hid (CX4.out.bel bA.out)
            have TIA := Lib.hid (TI4.out.kept (gb_of bA.out) oth_none)
            have MA := Lib.hid (M4.out.below bA.out)
            obtain ⟨yr0, yr0f⟩ := YBk.out.y0
            obtain ⟨yr1, yr1f⟩ := YBk.out.y1
            obtain ⟨yr2, yr2f⟩ := YBk.out.y2
            obtain ⟨yr3, yr3f⟩ := YBk.out.y3
            obtain ⟨yr4, yr4f⟩ := YBk.out.y4
            obtain ⟨xc1, xc1f⟩ := (CX4.out.bel YBk.out.bl).c1
            clear YBk CX4 TI4 ER4 M4 sB hkl
            go_wp2_with (at_builtin; refine wpList_plain (by rfl) fun K' hK' => ?_; refine wp_er1 (k := i) (c := c5 (.int .i64 kd) (.slice A8 nv c8) (.slice A9 nc c9) (.int .i64 bd) (.slice Ak k capk)) (lo := X + 1) (N := 22) _ _ (by rfl) HER.out (by omega) (by rfl) (by rfl) (heap_alloc_new _ _) HE5.out (by omega) ?_ (Nat.le_refl _); intro gg cap3 w7 her7 hgr7 hown7 hhi7; have CX7 := Lib.hid (CXA.out.grow hgr7 (fun b e => by have := hown7 b e; omega)); have TI7 := Lib.hid (TIA.out.kept hgr7 (fun b e => by have := hown7 b e; omega)); have M7 := Lib.hid (MA.out.grow hgr7 (fun b e => by have := hown7 b e; omega)); have ER7 := Lib.hid her7; clear her7 hgr7 hown7 CXA TIA MA HER HE5; obtain ⟨xc1, xc1f⟩ := CX7.out.c1; refine hK' _ _ ?_; clear hK' K')
            go_roundw
            case rel => exact ⟨i + 1, _, by omega, by go_num, CX7.out.put1, TI7.out.kept (gb_set _ _ _) (oth_some (.inr (Nat.le_refl _))), (ER7.out.kept (gb_set _ _ _) (oth_some (.inl (by show X < X + 1; omega)))).more (Nat.le_refl _) (by simp [World.setCell]) (Nat.le_refl _), M7.out.set (.inl (by omega))⟩
            case measure => simp [intOf]; omega
    · obtain rfl : i = n := by omega
      obtain ⟨e0, g0, g0f⟩ := CXk.out.res 0 (by omega)
      obtain ⟨e1, g1, g1f⟩ := CXk.out.res 1 (by omega)
      obtain ⟨xc0, xc0f⟩ := CXk.out.c0
      obtain ⟨xc1, xc1f⟩ := CXk.out.c1
      go_wp2
      refine bodyPost_ret (v := .agg #[.slice As sn cs, .slice Ao i capo]) (by simp [results, Try.results83, go_sem, g0, g1]) rfl ?_
      obtain ⟨f1, f2⟩ := CXk.out.fin (.slice As sn cs) (.slice Ao i capo)
      have f4 := f1.size
      exact ⟨As, cs, Ao, capo, X, by omega, by omega, rfl, (TIk.out.kept f1 (oth_some (.inl (by omega)))).more (by omega) (Nat.le_refl _), (ERk.out.kept f1 (oth_some (.inl (by omega)))).more (by omega) f4 (Nat.le_refl _), f2⟩
end Go.Proofs.Ytafiikfaeomhpaa

namespace Go.Proofs.Ytafiikfaeomhpaa
open Go.ChangeShapes Go.WideShapes Go.ChangeAt Go.RowKit

set_option maxRecDepth 100000 in
set_option maxHeartbeats 3200000 in
theorem dcells_any (R K : Nat) (As Ar : Option Addr) (sn cs n cr lo hi : Nat) (w : World) (hK : K ≤ 900000) (hs : sn ≤ 10) (hsz : TI w lo hi (.slice As sn cs) sn) (h : Rdr w R K) (hlo : R < lo) (hhi : hi ≤ w.heap.size) :
    Calls Try.prog 54 #[.pointer (some ⟨R, 0, none⟩), .agg #[.slice As sn cs, .slice Ar n cr]] w fun e w' => ∃ V k, e = .returned V ∧ k ≤ 11 ∧ TS w' w.heap.size 3 1 V k ∧ Gr R w w' ∧ Rdr w' R (K + 20) := by
  have hRw := h.lt
  have HR := Lib.hid h
  have HS := Lib.hid hsz
  clear h hsz
  go_enter Try.func54, Try.ntmps54
  go_wp2
  have c0 : Cel ((w.alloc (.cells #[.slice As sn cs, .slice Ar n cr] 30)).alloc (.cells #[] 3)) w.heap.size 0 (.slice As sn cs) := ⟨by go_simp, by go_simp⟩
  have ts0 := ts_lit (w.alloc (.cells #[.slice As sn cs, .slice Ar n cr] 30)) 3 1
  have hb0 := bl_alloc (bl_alloc (Below.refl w.heap.size w) (.cells #[.slice As sn cs, .slice Ar n cr] 30)) (.cells #[] 3)
  have hz0 : (w.alloc (.cells #[.slice As sn cs, .slice Ar n cr] 30)).heap.size = w.heap.size + 1 := by simp
  have hz1 : ((w.alloc (.cells #[.slice As sn cs, .slice Ar n cr] 30)).alloc (.cells #[] 3)).heap.size = w.heap.size + 1 + 1 := by simp
  rw [hz0] at ts0
  have C0 := Lib.hid c0
  have T0 := Lib.hid ts0
  have B0 := Lib.hid hb0
  clear c0 ts0 hb0 hz0
  generalize ((w.alloc (.cells #[.slice As sn cs, .slice Ar n cr] 30)).alloc (.cells #[] 3)) = w1 at *
  go_loopw [5, 6] (fun t i wr => ∃ j : Nat, j ≤ sn ∧ i = .int .i64 j ∧ TS wr (w.heap.size + 1) 3 1 t j ∧ Cel wr w.heap.size 0 (.slice As sn cs) ∧ TI wr lo hi (.slice As sn cs) sn ∧ Gr R w wr ∧ Rdr wr R (K + j)) (fun _ i _ => sn - (intOf i).toNat)
  case atStart => exact ⟨0, Nat.zero_le _, rfl, T0.out, C0.out, HS.out.kept (gb_of B0.out) oth_none, Gr.of B0.out, HR.out.bel B0.out⟩
  case round =>
    obtain ⟨j, hj, rfl, hts, c0, hsz, hgr, hrd⟩ := hrel
    have TSk := Lib.hid hts
    have GR := Lib.hid hgr
    have RD := Lib.hid hrd
    have C1 := Lib.hid c0
    have SZk := Lib.hid hsz
    obtain ⟨c0a, c0b⟩ := c0
    obtain ⟨A1, cap1, rfl⟩ := ts_head hts
    have hzr : w.heap.size < wr.heap.size := World.block_lt_of_cell? wr ⟨w.heap.size, 0, none⟩ c0a
    have hzr2 : w.heap.size + 1 ≤ wr.heap.size := by omega
    clear hts hgr hrd hsz
    by_cases hlt : j < sn
    · have hlt' : (j : Int) < (sn : Int) := by omega
      have hj0 : (0 : Int) ≤ (j : Int) := by omega
      obtain ⟨g, cp, z, e, cz⟩ := ts_at SZk.out.1 hlt
      cases e
      obtain ⟨nz, hnz⟩ : ∃ nz, wrap64 (z + 1) = nz := ⟨_, rfl⟩
      by_cases h1 : nz < 1
      · go_wp2_with fail
        refine (pick_any R (K + j) _ _ (by omega) RD.out).mono ?_
        rintro e w2 ⟨x, rfl, hx0, hx1, hg, hr⟩
        have TS2 := Lib.hid (TSk.out.gr hg (by omega))
        have GR2 := Lib.hid (GR.out.trans hg)
        have RD2 := Lib.hid hr
        have C2 := Lib.hid (hg.cel C1.out (by omega))
        have SZ2 := Lib.hid (SZk.out.kept hg (oth_some (.inl hlo)))
        have hz2 : w.heap.size + 1 ≤ w2.heap.size := Nat.le_trans hzr2 hg.size
        have HAl := Lib.hid (bl_alloc (Below.refl w2.heap.size w2) (.cells #[.int .i64 x] 3))
        clear hg hr c0a c0b TSk GR RD C1 SZk hx0 hx1
        go_wp2_with (at_builtin; refine wpList_plain (by rfl) fun K' hK' => ?_; refine wp_ts1 _ _ 22 (by rfl) Try.underlying22 Try.infoInt (TS2.out.bel HAl.out) (by first | (simp; done) | (simp; omega)) (by rfl) (by rfl) (heap_alloc_new _ _) (by omega) ?_; intro gg cap1 w9 hts9 hgr9; refine hK' _ _ ?_; clear hK' K')
        go_roundw
        case rel => exact ⟨j + 1, by omega, by go_num, hts9, (C2.out.below HAl.out).grow hgr9 (fun b e => by have := TS2.out.lt2 b e; omega), (SZ2.out.kept (gb_of HAl.out) oth_none).kept hgr9 (fun b e => by have := TS2.out.lt2 b e; omega), (GR2.out.bel HAl.out).grow hgr9 (fun b e => by have := TS2.out.lt2 b e; omega), (RD2.out.bel HAl.out).grow hgr9 (fun b e => by have := TS2.out.lt2 b e; omega)⟩
        case measure => simp [intOf]; omega
      · by_cases h4 : 4 < nz
        · go_wp2_with fail
          refine (pick_any R (K + j) _ _ (by omega) RD.out).mono ?_
          rintro e w2 ⟨x, rfl, hx0, hx1, hg, hr⟩
          have TS2 := Lib.hid (TSk.out.gr hg (by omega))
          have GR2 := Lib.hid (GR.out.trans hg)
          have RD2 := Lib.hid hr
          have C2 := Lib.hid (hg.cel C1.out (by omega))
          have SZ2 := Lib.hid (SZk.out.kept hg (oth_some (.inl hlo)))
          have hz2 : w.heap.size + 1 ≤ w2.heap.size := Nat.le_trans hzr2 hg.size
          have HAl := Lib.hid (bl_alloc (Below.refl w2.heap.size w2) (.cells #[.int .i64 x] 3))
          clear hg hr c0a c0b TSk GR RD C1 SZk hx0 hx1
          go_wp2_with (at_builtin; refine wpList_plain (by rfl) fun K' hK' => ?_; refine wp_ts1 _ _ 22 (by rfl) Try.underlying22 Try.infoInt (TS2.out.bel HAl.out) (by first | (simp; done) | (simp; omega)) (by rfl) (by rfl) (heap_alloc_new _ _) (by omega) ?_; intro gg cap1 w9 hts9 hgr9; refine hK' _ _ ?_; clear hK' K')
          go_roundw
          case rel => exact ⟨j + 1, by omega, by go_num, hts9, (C2.out.below HAl.out).grow hgr9 (fun b e => by have := TS2.out.lt2 b e; omega), (SZ2.out.kept (gb_of HAl.out) oth_none).kept hgr9 (fun b e => by have := TS2.out.lt2 b e; omega), (GR2.out.bel HAl.out).grow hgr9 (fun b e => by have := TS2.out.lt2 b e; omega), (RD2.out.bel HAl.out).grow hgr9 (fun b e => by have := TS2.out.lt2 b e; omega)⟩
          case measure => simp [intOf]; omega
        · go_wp2_with fail
          refine (pick_any R (K + j) _ _ (by omega) RD.out).mono ?_
          rintro e w2 ⟨x, rfl, hx0, hx1, hg, hr⟩
          have TS2 := Lib.hid (TSk.out.gr hg (by omega))
          have GR2 := Lib.hid (GR.out.trans hg)
          have RD2 := Lib.hid hr
          have C2 := Lib.hid (hg.cel C1.out (by omega))
          have SZ2 := Lib.hid (SZk.out.kept hg (oth_some (.inl hlo)))
          have hz2 : w.heap.size + 1 ≤ w2.heap.size := Nat.le_trans hzr2 hg.size
          have HAl := Lib.hid (bl_alloc (Below.refl w2.heap.size w2) (.cells #[.int .i64 x] 3))
          clear hg hr c0a c0b TSk GR RD C1 SZk hx0 hx1
          go_wp2_with (at_builtin; refine wpList_plain (by rfl) fun K' hK' => ?_; refine wp_ts1 _ _ 22 (by rfl) Try.underlying22 Try.infoInt (TS2.out.bel HAl.out) (by first | (simp; done) | (simp; omega)) (by rfl) (by rfl) (heap_alloc_new _ _) (by omega) ?_; intro gg cap1 w9 hts9 hgr9; refine hK' _ _ ?_; clear hK' K')
          go_roundw
          case rel => exact ⟨j + 1, by omega, by go_num, hts9, (C2.out.below HAl.out).grow hgr9 (fun b e => by have := TS2.out.lt2 b e; omega), (SZ2.out.kept (gb_of HAl.out) oth_none).kept hgr9 (fun b e => by have := TS2.out.lt2 b e; omega), (GR2.out.bel HAl.out).grow hgr9 (fun b e => by have := TS2.out.lt2 b e; omega), (RD2.out.bel HAl.out).grow hgr9 (fun b e => by have := TS2.out.lt2 b e; omega)⟩
          case measure => simp [intOf]; omega
    · obtain rfl : j = sn := by omega
      go_wp2_with fail
      refine (pick_any R (K + j) 40 _ (by omega) RD.out).mono ?_
      rintro e w2 ⟨x, rfl, hx0, hx1, hg, hr⟩
      have TS2 := Lib.hid (TSk.out.gr hg (by omega))
      have GR2 := Lib.hid (GR.out.trans hg)
      have RD2 := Lib.hid hr
      have hz2 : w.heap.size + 1 ≤ w2.heap.size := Nat.le_trans hzr2 hg.size
      clear hg hr c0a c0b TSk GR RD C1 SZk
      by_cases h0 : x = 0
      · subst h0
        clear hx0 hx1
        have HAl := Lib.hid (bl_alloc (Below.refl w2.heap.size w2) (.cells #[.int .i64 0] 3))
        go_wp2_with (at_builtin; refine wpList_plain (by rfl) fun K' hK' => ?_; refine wp_ts1 _ _ 22 (by rfl) Try.underlying22 Try.infoInt (TS2.out.bel HAl.out) (by first | (simp; done) | (simp; omega)) (by rfl) (by rfl) (heap_alloc_new _ _) (by omega) ?_; intro gg cap1 w9 hts9 hgr9; refine hK' _ _ ?_; clear hK' K')
        go_ret
        exact ⟨_, j + 1, rfl, by omega, ts_more hts9 (by omega), (GR2.out.bel HAl.out).grow hgr9 (fun b e => by have := TS2.out.lt2 b e; omega), ((RD2.out.bel HAl.out).grow hgr9 (fun b e => by have := TS2.out.lt2 b e; omega)).more (by omega)⟩
      · have hd0 : (x == 0) = false := by rw [beq_eq_false_iff_ne]; exact h0
        by_cases h1 : x = 1
        · subst h1
          clear hx0 hx1 h0 hd0
          by_cases hj0 : 0 < j
          · have hj0' : (0 : Int) < (j : Int) := by omega
            obtain ⟨g, cp, e, _, hg1, hg2, hcell, hfr⟩ := TS2.out.open hj0
            cases e
            obtain ⟨u0, hu0⟩ := hcell 0 (by omega)
            have hf0 := hfr 0
            clear hcell hfr
            go_wp2_with fail
            have HAl := Lib.hid (bl_alloc (Below.refl w2.heap.size w2) (.cells #[.int .i64 (-1), .int .i64 4, .int .i64 9223372036854775807] 3))
            refine (num_any R (K + j + 1) w2.heap.size 3 _ _ _ (by omega) (RD2.out.bel HAl.out) (by omega) (heap_alloc_new w2 _) (by rfl) (by omega) (by omega) (lit_all [-1, 4, 9223372036854775807])).mono ?_
            rintro e w3 ⟨z, rfl, _, hg, hr⟩
            have TS3 := Lib.hid ((TS2.out.bel HAl.out).gr hg (by omega))
            have GR3 := Lib.hid ((GR2.out.bel HAl.out).trans hg)
            have RD3 := Lib.hid hr
            obtain ⟨g', cap'', e', _, _, hg3, hcell, hfro⟩ := TS3.out.open hj0
            cases e'
            obtain ⟨u0, hu0⟩ := hcell 0 (by omega)
            have hf0 := hfro 0
            clear hg hr hcell hfro
            go_wp2
            go_ret
            exact ⟨_, j, rfl, by omega, ts_more (TS3.out.store 0 z) (by omega), GR3.out.set (.inr (by show w.heap.size ≤ g; omega)) _, (RD3.out.set (by show R < g; omega) _).more (by omega)⟩
          · obtain rfl : j = 0 := by omega
            go_wp2
            go_ret
            exact ⟨_, 0, rfl, by omega, ts_more TS2.out (by omega), GR2.out, RD2.out.more (by omega)⟩
        · have hd1 : (x == 1) = false := by rw [beq_eq_false_iff_ne]; exact h1
          clear hx0 hx1
          go_wp2
          go_ret
          exact ⟨_, j, rfl, by omega, ts_more TS2.out (by omega), GR2.out, RD2.out.more (by omega)⟩
end Go.Proofs.Ytafiikfaeomhpaa

namespace Go.Proofs.Ytafiikfaeomhpaa
open Go.ChangeShapes Go.WideShapes Go.ChangeAt Go.RowKit

section
variable {W : World} {lo k : Nat} {ov : Value}
set_option maxRecDepth 100000 in
set_option maxHeartbeats 800000 in
theorem wp_ts1o {o : Oper} {a : Act} {K : Act → World → Prop} {Q : Exit → Act → World → Prop} (s x : Operand)
    (ho : o.op = .call { callee := .builtin .append, args := #[s, x], argTypes := #[22, 22] })
    (h : TS W lo 3 1 ov k) (hlo : lo ≤ W.heap.size) (hs : a.eval s = ov) {H : Nat} (hx : a.eval x = .slice (some ⟨H, 0, none⟩) 1 1) {X : Int} {T' : TypeId} (hnew : W.heap[H]? = some (.cells #[.int .i64 X] T' (0, 0))) (hk : k ≤ 1048576)
    (hK : ∀ g cap w', TS w' lo 3 1 (.slice (some ⟨g, 0, none⟩) (k + 1) cap) (k + 1) → W.grownBy w' ov.ownBlock → (ov.ownBlock = some g ∨ g = W.heap.size) → K (a.put o.dst (.slice (some ⟨g, 0, none⟩) (k + 1) cap)) w') :
    o.wp Try.prog a W K Q := by
  obtain ⟨i0, hi, hz0, hz1, hz2⟩ := info_parts Try.infoInt
  obtain ⟨xs, h0, h1, h2⟩ := h
  refine wp_append_lies _ s x 22 ho lo 3 i0 _ 1 8 Try.underlying22 hi hz0 hz1 hz2 rfl (by omega) ov k _ hs h0 ⟨H, 0, none⟩ 1 1 [.int .i64 X] hx (by rfl)
    (World.news_of_block hnew) (by simp [Value.oneCell']) (by omega) (by unfold maxLen; omega) (by omega) hlo W.heap.size rfl ?_
  intro g cap w' hown hg ho2 _
  refine hK g cap w' ⟨_, hown, by simp; omega, fun u hu => ?_⟩ hg ho2
  rcases List.mem_append.1 hu with hu | hu
  · exact h2 u hu
  · exact ⟨X, by simpa using hu⟩
end

theorem MX.grow1 {w0 w : World} {R K X Y g o : Nat} {c0 c1 u : Value} (h : MX w0 w R K X Y c0 c1) (h1 : w0.heap.size ≤ g) (h2 : g ≠ X) (h3 : g ≠ Y) : MX w0 (w.setCell ⟨g, o, none⟩ u) R K X Y c0 c1 :=
  h.grow (ov := .slice (some ⟨g, 0, none⟩) 0 0) (gb_set w ⟨g, o, none⟩ u) (fun j e => by cases e; exact ⟨h1, h2, h3⟩)

set_option linter.unusedVariables false in
set_option maxRecDepth 100000 in
set_option maxHeartbeats 6400000 in
theorem mutate_any (R K : Nat) (A0 A1 : Option Addr) (sn cap0 n cap1 lo hi : Nat) (w : World) (hK : K ≤ 800000) (hs : sn ≤ 10) (hn : n ≤ 10) (h0 : TI w lo hi (.slice A0 sn cap0) sn) (h1 : ER w lo hi (.slice A1 n cap1) n 22) (h : Rdr w R K) :
    Calls Try.prog 51 #[.pointer (some ⟨R, 0, none⟩), .agg #[.slice A0 sn cap0, .slice A1 n cap1]] w fun e w' => ∃ As cs Ar cr sn' n', e = .returned (.agg #[.slice As sn' cs, .slice Ar n' cr]) ∧ sn' ≤ 10 ∧ n' ≤ 10 ∧ TI w' w.heap.size w'.heap.size (.slice As sn' cs) sn' ∧ ER w' w.heap.size w'.heap.size (.slice Ar n' cr) n' 22 ∧ Gr R w w' ∧ Rdr w' R (K + 10) := by
  have hRw := h.lt
  have H0 := Lib.hid h0
  have H1 := Lib.hid h1
  have HR := Lib.hid h
  clear h0 h1 h
  have HB1 := Lib.hid (bl_alloc (bl_alloc (Below.refl w.heap.size w) (.cells #[.slice A0 sn cap0, .slice A1 n cap1] 30)) (.cells #[.slice none 0 0, .slice none 0 0] 30))
  have y0 : Cel ((w.alloc (.cells #[.slice A0 sn cap0, .slice A1 n cap1] 30)).alloc (.cells #[.slice none 0 0, .slice none 0 0] 30)) (w.heap.size + 1) 0 (.slice none 0 0) := ⟨by go_simp, by go_simp⟩
  have y1 : Cel ((w.alloc (.cells #[.slice A0 sn cap0, .slice A1 n cap1] 30)).alloc (.cells #[.slice none 0 0, .slice none 0 0] 30)) (w.heap.size + 1) 1 (.slice none 0 0) := ⟨by go_simp, by go_simp⟩
  have hz1 : ((w.alloc (.cells #[.slice A0 sn cap0, .slice A1 n cap1] 30)).alloc (.cells #[.slice none 0 0, .slice none 0 0] 30)).heap.size = w.heap.size + 1 + 1 := by simp
  have Y0 := Lib.hid y0
  have Y1 := Lib.hid y1
  clear y0 y1
  go_enter Try.func51, Try.ntmps51
  go_wp2_with fail
  refine (mcopy_any A0 A1 sn cap0 n cap1 lo hi _ hs hn (H0.out.kept (gb_of HB1.out) oth_none) (H1.out.kept (gb_of HB1.out) oth_none)).mono ?_
  rintro e w2 ⟨As, cs, Ar, cr, mid, hm1, hm2, rfl, hti, her, hb⟩
  have hb2 := bl_trans HB1.out hb
  have hsz := hb.size
  rw [hz1] at hm1 hti hsz
  have hal := bl_alloc (Below.refl w2.heap.size w2) (.cells #[.slice As sn cs, .slice Ar n cr] 30)
  have hb3 := bl_trans hb2 hal
  have MX3 : Hid (MX w (w2.alloc (.cells #[.slice As sn cs, .slice Ar n cr] 30)) R K w2.heap.size (w.heap.size + 1) (.slice As sn cs) (.slice Ar n cr)) := Lib.hid ⟨hRw, by omega, by omega, by omega, fun i hi => (by
    have : i = 0 ∨ i = 1 := by omega
    rcases this with rfl | rfl
    · exact ⟨_, (Y0.out.below hb).below hal⟩
    · exact ⟨_, (Y1.out.below hb).below hal⟩), ⟨by go_simp, by go_simp⟩, ⟨by go_simp, by go_simp⟩, Gr.of hb3, HR.out.bel hb3⟩
  have TI3 := Lib.hid (hti.kept (gb_of hal) oth_none)
  have ER3 := Lib.hid (her.kept (gb_of hal) oth_none)
  have hz3 : (w2.alloc (.cells #[.slice As sn cs, .slice Ar n cr] 30)).heap.size = w2.heap.size + 1 := by simp
  go_wp2_with fail
  obtain ⟨X, hX⟩ : ∃ X, w2.heap.size = X := ⟨_, rfl⟩
  rw [hX] at MX3 ER3 hz3 hm2 hsz ⊢
  clear hti her hb hb2 hal hb3 Y0 Y1 HB1 H0 H1 HR hz1
  generalize (w2.alloc (.cells #[.slice As sn cs, .slice Ar n cr] 30)) = w3 at *
  clear hX
  obtain ⟨x0a, x0b⟩ := MX3.out.c0
  obtain ⟨x1a, x1b⟩ := MX3.out.c1
  refine (pick_any R K 50 _ (by omega) MX3.out.rd).mono ?_
  rintro e w4 ⟨x, rfl, hx0, hx1, hg, hr⟩
  have MX4 := Lib.hid (MX3.out.ask hg hr)
  have TI4 := Lib.hid (TI3.out.kept hg (oth_some (.inl (by omega))))
  have ER4 := Lib.hid (ER3.out.kept hg (oth_some (.inl (by omega))))
  have hz4 : X + 1 ≤ w4.heap.size := by have := hg.size; omega
  clear hg hr MX3 TI3 ER3 x0a x0b x1a x1b hz3
  by_cases hk0 : x = 0
  · subst hk0
    clear hx0 hx1
    obtain ⟨x0a, x0b⟩ := MX4.out.c0
    obtain ⟨x1a, x1b⟩ := MX4.out.c1
    by_cases hp : 0 < sn
    · have hpI : (0 : Int) < (sn : Int) := by omega
      obtain ⟨g, cp, e, hcp, hg1, hg2, hcell, hfr⟩ := TI4.out.1.open hp
      cases e
      obtain ⟨u0, hu0⟩ := hcell 0 (by omega)
      have hf0 := hfr 0
      clear hcell hfr
      have HBl := Lib.hid (fun o => bl_alloc (Below.drew (Below.refl w4.heap.size w4)) o)
      have HAt := Lib.hid (fun o => heap_alloc_new w4.drew o)
      have hszl : (#[.int .i64 (-1), .int .i64 4, .int .i64 3, .int .i64 9223372036854775807] : Array Value).size = 4 := rfl
      have hl0 : 0 < 4 := by omega
      have hl1 : 4 ≤ 1000 := by omega
      have hKb : K + 1 ≤ 1000000 := by omega
      have hneR : w4.heap.size ≠ R := by omega
      have hRm : R < mid := by omega
      have hRs : R < w.heap.size + 1 + 1 := by omega
      have x0l := kc (bl_alloc (Below.refl w4.heap.size w4) (.cells #[.int .i64 (-1), .int .i64 4, .int .i64 3, .int .i64 9223372036854775807] 3)) x0a
      go_upto_region 6 with fail
      go_region_law (first
          | (go_simp; go_at_call 84; refine (num_from (W := w4) (HBl.out _) R _ w4.heap.size 4 _ _ hKb MX4.out.rd hneR (HAt.out _) hszl hl0 hl1 (lit_all [-1, 4, 3, 9223372036854775807])).mono ?_; rintro e w6 ⟨y, rfl, hym, hg, hr⟩; have MX6 := Lib.hid (MX4.out.ask hg hr); have TI6 := Lib.hid (TI4.out.kept hg (oth_some (.inl hRs))); have ER6 := Lib.hid (ER4.out.kept hg (oth_some (.inl hRm))); have hz6 := hg.size; replace x0a := MX6.out.c0.1; obtain ⟨g', cp', e', hcp', hg1', hg2', hcell, hfr⟩ := TI6.out.1.open hp; cases e'; obtain ⟨u0', hu0'⟩ := hcell 0 (by omega); have hf0' := hfr 0; clear hcell hfr; clear hg hr hym))
      all_goals
        have hgm : g < X := by have := TI6.out.2 g rfl; omega
        have MX7 := Lib.hid (MX6.out.grow1 (g := g) (o := 0) (u := .int .i64 y) (by omega) (by omega) (by omega))
        have TI7 := Lib.hid (TI6.out.store g 0 y)
        have ER7 := Lib.hid (ER6.out.kept (gb_set w6 ⟨g, 0, none⟩ (.int .i64 y)) (oth_some (.inl (by have := TI6.out.2 g rfl; omega))))
        have hz7 : (w6.setCell ⟨g, 0, none⟩ (.int .i64 y)).heap.size = w6.heap.size := by simp [World.setCell]
        generalize w6.setCell ⟨g, 0, none⟩ (.int .i64 y) = w7 at *
        clear x0a x0b x1a x1b hu0 hf0 hu0' hf0' HBl HAt MX6 TI6 ER6 MX4 TI4 ER4 x0l
        obtain ⟨e0, g0, g0f⟩ := MX7.out.res 0 (by omega)
        obtain ⟨e1, g1, g1f⟩ := MX7.out.res 1 (by omega)
        obtain ⟨x0a, x0b⟩ := MX7.out.c0
        obtain ⟨x1a, x1b⟩ := MX7.out.c1
        go_wp2
        refine bodyPost_ret (v := .agg #[.slice (some ⟨g, 0, none⟩) sn cs, .slice Ar n cr]) (by simp [results, Try.results51, go_sem, g0, g1]) rfl ?_
        obtain ⟨f1, f2, f3⟩ := MX7.out.fin (.slice (some ⟨g, 0, none⟩) sn cs) (.slice Ar n cr)
        have f4 := f1.size
        exact ⟨(some ⟨g, 0, none⟩), cs, Ar, cr, sn, n, rfl, by omega, by omega, (TI7.out.kept f1 (oth_some (.inl (by omega)))).more (by omega) (by omega), (ER7.out.kept f1 (oth_some (.inl (by omega)))).more (by omega) (by omega) (Nat.le_refl _), f2, f3.more (by omega)⟩
    · obtain rfl : sn = 0 := by omega
      clear x0a x0b x1a x1b
      obtain ⟨e0, g0, g0f⟩ := MX4.out.res 0 (by omega)
      obtain ⟨e1, g1, g1f⟩ := MX4.out.res 1 (by omega)
      obtain ⟨x0a, x0b⟩ := MX4.out.c0
      obtain ⟨x1a, x1b⟩ := MX4.out.c1
      go_wp2
      refine bodyPost_ret (v := .agg #[.slice As 0 cs, .slice Ar n cr]) (by simp [results, Try.results51, go_sem, g0, g1]) rfl ?_
      obtain ⟨f1, f2, f3⟩ := MX4.out.fin (.slice As 0 cs) (.slice Ar n cr)
      have f4 := f1.size
      exact ⟨As, cs, Ar, cr, 0, n, rfl, by omega, by omega, (TI4.out.kept f1 (oth_some (.inl (by omega)))).more (by omega) (by omega), (ER4.out.kept f1 (oth_some (.inl (by omega)))).more (by omega) (by omega) (Nat.le_refl _), f2, f3.more (by omega)⟩
  · have hd0 : (x == 0) = false := by rw [beq_eq_false_iff_ne]; exact hk0
    by_cases hk1 : x = 1
    · subst hk1
      clear hx0 hx1
      have ZZ := Lib.hid (show TS w4 (w.heap.size + 1 + 1) 3 1 (.slice As sn cs) sn ∧ (∀ j, (Value.slice As sn cs).ownBlock = some j → j < mid ∨ X < j) from ⟨TI4.out.1, fun j e => .inl (TI4.out.2 j e)⟩)
      clear TI4
      go_wp2_with fail
      go_loopw [30] (fun c wr => ∃ (k : Nat) (V : Value), k ≤ 10 ∧ TS wr (w.heap.size + 1 + 1) 3 1 V k ∧ (∀ j, V.ownBlock = some j → j < mid ∨ X < j) ∧ X + 1 ≤ wr.heap.size ∧ MX w wr R (K + 1) X (w.heap.size + 1) V (.slice Ar n cr) ∧ ER wr mid X (.slice Ar n cr) n 22) (fun c wr => 11 - lenC (wr.cell? ⟨X, 0, none⟩))
      case atStart => exact ⟨sn, _, hs, ZZ.out.1, ZZ.out.2, hz4, MX4.out, ER4.out⟩
      case round =>
        obtain ⟨k, V, hk, hts, hown, hz5, hmx, her⟩ := hrel
        have TSk := Lib.hid hts
        have MXk := Lib.hid hmx
        have ERk := Lib.hid her
        have HOk := Lib.hid hown
        obtain ⟨Ak, capk, rfl⟩ := ts_head hts
        have HL := Lib.hid (show lenC (wr.cell? ⟨X, 0, none⟩) = k from by rw [hmx.c0.1]; rfl)
        obtain ⟨x0a, x0b⟩ := hmx.c0
        obtain ⟨x1a, x1b⟩ := hmx.c1
        clear hts hmx her hown ZZ MX4 ER4
        by_cases h5 : k ≤ 5
        · have h5I : (k : Int) ≤ 5 := by omega
          have HAl := Lib.hid (bl_alloc (Below.refl wr.heap.size wr) (.cells #[.int .i64 0] 3))
          have MXA := Lib.hid (MXk.out.bel HAl.out)
          have ERA := Lib.hid (ERk.out.kept (gb_of HAl.out) oth_none)
          have hzA := HAl.out.size
          go_wp2_with (at_builtin; refine wpList_plain (by rfl) fun K' hK' => ?_; refine wp_ts1o (k := k) _ _ (by rfl) (TSk.out.bel HAl.out) (by omega) (by rfl) (by rfl) (heap_alloc_new _ _) (by omega) ?_; intro gg cap2 w7 hts7 hgr7 hob7; have hz7 := hgr7.size; have MX7 := Lib.hid (MXA.out.grow hgr7 (fun b e => by have := TSk.out.lt2 b e; have := HOk.out b e; omega)); have ER7 := Lib.hid (ERA.out.kept hgr7 (fun b e => by have := HOk.out b e; omega)); have TS7 := Lib.hid hts7; have HO7 := Lib.hid (show gg < mid ∨ X < gg from by rcases hob7 with h | h; exact HOk.out gg h; (right; simp at h; omega)); clear hts7 hgr7 hob7 MXA ERA; obtain ⟨x0a, x0b⟩ := MX7.out.c0; refine hK' _ _ ?_; clear hK' K')
          have MX8 := Lib.hid (MX7.out.put0 (u := .slice (some ⟨gg, 0, none⟩) (k + 1) cap2))
          have HL8 := Lib.hid (show lenC ((w7.setCell ⟨X, 0, none⟩ (.slice (some ⟨gg, 0, none⟩) (k + 1) cap2)).cell? ⟨X, 0, none⟩) = k + 1 from by rw [MX8.out.c0.1]; rfl)
          go_roundw
          case rel => exact ⟨k + 1, _, by omega, TS7.out.setne (fun i hi e' => by cases hi; cases e'; have := HO7.out; omega) _, (fun j e => by cases e; exact HO7.out), by simp only [World.setCell, Array.size_modify]; omega, MX8.out, ER7.out.kept (gb_set _ _ _) (oth_some (.inr (Nat.le_refl _)))⟩
          case measure => rw [HL.out, HL8.out]; omega
        · have h5I : ¬ (k : Int) ≤ 5 := by omega
          have TI7 := Lib.hid (TSk.out.ti (Nat.le_refl _))
          clear x0a x0b x1a x1b HL
          obtain ⟨e0, g0, g0f⟩ := MXk.out.res 0 (by omega)
          obtain ⟨e1, g1, g1f⟩ := MXk.out.res 1 (by omega)
          obtain ⟨x0a, x0b⟩ := MXk.out.c0
          obtain ⟨x1a, x1b⟩ := MXk.out.c1
          go_wp2
          refine bodyPost_ret (v := .agg #[.slice Ak k capk, .slice Ar n cr]) (by simp [results, Try.results51, go_sem, g0, g1]) rfl ?_
          obtain ⟨f1, f2, f3⟩ := MXk.out.fin (.slice Ak k capk) (.slice Ar n cr)
          have f4 := f1.size
          exact ⟨Ak, capk, Ar, cr, k, n, rfl, by omega, by omega, (TI7.out.kept f1 (oth_some (.inl (by omega)))).more (by omega) (by omega), (ERk.out.kept f1 (oth_some (.inl (by omega)))).more (by omega) (by omega) (Nat.le_refl _), f2, f3.more (by omega)⟩
    · have hd1 : (x == 1) = false := by rw [beq_eq_false_iff_ne]; exact hk1
      by_cases hk2 : x = 2
      · subst hk2
        clear hx0 hx1
        obtain ⟨x0a, x0b⟩ := MX4.out.c0
        obtain ⟨x1a, x1b⟩ := MX4.out.c1
        by_cases hp : 0 < n
        · have hpI : (0 : Int) < (n : Int) := by omega
          obtain ⟨g, cp, c, e, hg1, hg2, -, hcell, hfr, -⟩ := ER4.out.at_ hp
          cases e
          have hu0 := hcell 0 (by omega)
          have hf0 := hfr 0
          simp only [Nat.zero_mul, Nat.zero_add] at hu0
          clear hcell hfr
          have HBl := Lib.hid (fun o => bl_alloc (Below.drew (Below.refl w4.heap.size w4)) o)
          have HAt := Lib.hid (fun o => heap_alloc_new w4.drew o)
          have hszl : (#[.int .i64 0, .int .i64 5, .int .i64 1, .int .i64 2, .int .i64 3] : Array Value).size = 5 := rfl
          have hl0 : 0 < 5 := by omega
          have hl1 : 5 ≤ 1000 := by omega
          have hKb : K + 1 ≤ 1000000 := by omega
          have hneR : w4.heap.size ≠ R := by omega
          have hRm : R < mid := by omega
          have hRs : R < w.heap.size + 1 + 1 := by omega
          have x1l := kc (bl_alloc (Below.refl w4.heap.size w4) (.cells #[.int .i64 0, .int .i64 5, .int .i64 1, .int .i64 2, .int .i64 3] 3)) x1a
          go_upto_region 12 with fail
          go_region_law (first
              | (go_simp; go_at_call 84; refine (num_from (W := w4) (HBl.out _) R _ w4.heap.size 5 _ _ hKb MX4.out.rd hneR (HAt.out _) hszl hl0 hl1 (lit_all [0, 5, 1, 2, 3])).mono ?_; rintro e w6 ⟨y, rfl, hym, hg, hr⟩; have MX6 := Lib.hid (MX4.out.ask hg hr); have TI6 := Lib.hid (TI4.out.kept hg (oth_some (.inl hRs))); have ER6 := Lib.hid (ER4.out.kept hg (oth_some (.inl hRm))); have hz6 := hg.size; replace x1a := MX6.out.c1.1; obtain ⟨g', cp', c', e', hg1', hg2', -, hcell, hfr, -⟩ := ER6.out.at_ hp; cases e'; have hu0' := hcell 0 (by omega); have hf0' := hfr 0; simp only [Nat.zero_mul, Nat.zero_add] at hu0'; clear hcell hfr; clear hg hr hym))
          all_goals
            have hgm : g < X := by obtain ⟨xs, -, h3, -⟩ := ER6.out; exact h3 g rfl
            have MX7 := Lib.hid (MX6.out.grow1 (g := g) (o := 0) (u := .int .i64 y) (by omega) (by omega) (by omega))
            have TI7 := Lib.hid (TI6.out.kept (gb_set w6 ⟨g, 0, none⟩ (.int .i64 y)) (oth_some (.inr (by omega))))
            have ER7 := Lib.hid (show ER (w6.setCell ⟨g, 0, none⟩ (.int .i64 y)) mid X (.slice (some ⟨g, 0, none⟩) n cr) n 22 from by have := ER6.out.put (i := 0) (o := 0) (by omega) y; simpa using this)
            have hz7 : (w6.setCell ⟨g, 0, none⟩ (.int .i64 y)).heap.size = w6.heap.size := by simp [World.setCell]
            generalize w6.setCell ⟨g, 0, none⟩ (.int .i64 y) = w7 at *
            clear x0a x0b x1a x1b hu0 hf0 hu0' hf0' HBl HAt MX6 TI6 ER6 MX4 TI4 ER4 x1l
            obtain ⟨e0, g0, g0f⟩ := MX7.out.res 0 (by omega)
            obtain ⟨e1, g1, g1f⟩ := MX7.out.res 1 (by omega)
            obtain ⟨x0a, x0b⟩ := MX7.out.c0
            obtain ⟨x1a, x1b⟩ := MX7.out.c1
            go_wp2
            refine bodyPost_ret (v := .agg #[.slice As sn cs, .slice (some ⟨g, 0, none⟩) n cr]) (by simp [results, Try.results51, go_sem, g0, g1]) rfl ?_
            obtain ⟨f1, f2, f3⟩ := MX7.out.fin (.slice As sn cs) (.slice (some ⟨g, 0, none⟩) n cr)
            have f4 := f1.size
            exact ⟨As, cs, (some ⟨g, 0, none⟩), cr, sn, n, rfl, by omega, by omega, (TI7.out.kept f1 (oth_some (.inl (by omega)))).more (by omega) (by omega), (ER7.out.kept f1 (oth_some (.inl (by omega)))).more (by omega) (by omega) (Nat.le_refl _), f2, f3.more (by omega)⟩
        · obtain rfl : n = 0 := by omega
          clear x0a x0b x1a x1b
          obtain ⟨e0, g0, g0f⟩ := MX4.out.res 0 (by omega)
          obtain ⟨e1, g1, g1f⟩ := MX4.out.res 1 (by omega)
          obtain ⟨x0a, x0b⟩ := MX4.out.c0
          obtain ⟨x1a, x1b⟩ := MX4.out.c1
          go_wp2
          refine bodyPost_ret (v := .agg #[.slice As sn cs, .slice Ar 0 cr]) (by simp [results, Try.results51, go_sem, g0, g1]) rfl ?_
          obtain ⟨f1, f2, f3⟩ := MX4.out.fin (.slice As sn cs) (.slice Ar 0 cr)
          have f4 := f1.size
          exact ⟨As, cs, Ar, cr, sn, 0, rfl, by omega, by omega, (TI4.out.kept f1 (oth_some (.inl (by omega)))).more (by omega) (by omega), (ER4.out.kept f1 (oth_some (.inl (by omega)))).more (by omega) (by omega) (Nat.le_refl _), f2, f3.more (by omega)⟩
      · have hd2 : (x == 2) = false := by rw [beq_eq_false_iff_ne]; exact hk2
        by_cases hk3 : x = 3
        · subst hk3
          clear hx0 hx1
          obtain ⟨x0a, x0b⟩ := MX4.out.c0
          obtain ⟨x1a, x1b⟩ := MX4.out.c1
          by_cases hp : 0 < n
          · have hpI : (0 : Int) < (n : Int) := by omega
            obtain ⟨m, rfl⟩ : ∃ m, n = m + 1 := ⟨n - 1, by omega⟩
            have hn1 : ((m + 1 : Nat) : Int) - 1 = (m : Int) := by omega
            obtain ⟨g, cp, c, e, hg1, hg2, -, hcell, hfr, hE⟩ := ER4.out.at_ (show m < m + 1 by omega)
            cases e
            obtain ⟨kd, bd, nv, nc, nr, e0, e3, b1, b2, b3, tv, tc, tr⟩ := hE
            obtain ⟨Av, cv, e1⟩ := tv.head
            have hu1 := hcell 1 (by omega)
            rw [e1] at hu1 tv
            have TV := Lib.hid tv
            have C1 := Lib.hid (show Cel w4 g (m * 5 + 1) (.slice Av nv cv) from ⟨hu1, hfr _⟩)
            clear hcell hfr e0 e3 b2 b3 tc tr tv e1
            by_cases hv : 0 < nv
            · have hvI : (0 : Int) < (nv : Int) := by omega
              obtain ⟨g5, cp5, e, hcp5, hg51, hg52, hcell, hfr⟩ := TV.out.1.open hv
              cases e
              obtain ⟨u0, hu0⟩ := hcell 0 (by omega)
              have hf0 := hfr 0
              clear hcell hfr
              have HBl := Lib.hid (fun o => bl_alloc (Below.drew (Below.refl w4.heap.size w4)) o)
              have HAt := Lib.hid (fun o => heap_alloc_new w4.drew o)
              have hszl : (#[.int .i64 (-1), .int .i64 5, .int .i64 1, .int .i64 0] : Array Value).size = 4 := rfl
              have hl0 : 0 < 4 := by omega
              have hl1 : 4 ≤ 1000 := by omega
              have hKb : K + 1 ≤ 1000000 := by omega
              have hneR : w4.heap.size ≠ R := by omega
              have hRm : R < mid := by omega
              have hRs : R < w.heap.size + 1 + 1 := by omega
              have x1l := kc (bl_alloc (Below.refl w4.heap.size w4) (.cells #[.int .i64 (-1), .int .i64 5, .int .i64 1, .int .i64 0] 3)) x1a
              have hu1l := kc (bl_alloc (Below.refl w4.heap.size w4) (.cells #[.int .i64 (-1), .int .i64 5, .int .i64 1, .int .i64 0] 3)) hu1
              have hwm : IntKind.i64.wrap (m : Int) = (m : Int) := IntWalk.i64_in _ (by omega)
              have hm0 : (0 : Int) ≤ (m : Int) := by omega
              have hm1 : (m : Int) < (m : Int) + 1 := by omega
              go_upto_region 15 with fail
              go_region_law (first
                  | (go_simp; go_at_call 84; refine (num_from (W := w4) (HBl.out _) R _ w4.heap.size 4 _ _ hKb MX4.out.rd hneR (HAt.out _) hszl hl0 hl1 (lit_all [-1, 5, 1, 0])).mono ?_; rintro e w6 ⟨y, rfl, hym, hg, hr⟩; have MX6 := Lib.hid (MX4.out.ask hg hr); have TI6 := Lib.hid (TI4.out.kept hg (oth_some (.inl hRs))); have ER6 := Lib.hid (ER4.out.kept hg (oth_some (.inl hRm))); have hz6 := hg.size; replace x1a := MX6.out.c1.1; obtain ⟨g', cp', c', e', hg1', hg2', -, hcell, hfr, hE'⟩ := ER6.out.at_ (show m < m + 1 by omega); cases e'; replace hu1 := (hg.cel C1.out (by omega)).1; have TV6 := Lib.hid (TV.out.kept hg (oth_some (.inl hRm))); obtain ⟨g6, cp6, e6, hcp6, hg61, hg62, hcell6, hfr6⟩ := TV6.out.1.open hv; cases e6; obtain ⟨u0', hu0'⟩ := hcell6 0 (by omega); have hf0' := hfr6 0; clear hcell hfr hE' hcell6 hfr6; clear hg hr hym))
              all_goals
                obtain ⟨cs5, hty⟩ := TV6.out.typed rfl
                have hgm := TV6.out.2 g5 rfl
                have MX7 := Lib.hid (MX6.out.grow1 (g := g5) (o := 0) (u := .int .i64 y) (by omega) (by omega) (by omega))
                have TI7 := Lib.hid (TI6.out.kept (gb_set w6 ⟨g5, 0, none⟩ (.int .i64 y)) (oth_some (.inr (by omega))))
                have ER7 := Lib.hid (ER6.out.store hty 0 y)
                have hz7 : (w6.setCell ⟨g5, 0, none⟩ (.int .i64 y)).heap.size = w6.heap.size := by simp [World.setCell]
                generalize w6.setCell ⟨g5, 0, none⟩ (.int .i64 y) = w7 at *
                clear x0a x0b x1a x1b hu0 hf0 hu0' hf0' HBl HAt MX6 TI6 ER6 MX4 TI4 ER4 hty TV TV6 hu1 C1 x1l hu1l
                obtain ⟨e0, g0, g0f⟩ := MX7.out.res 0 (by omega)
                obtain ⟨e1, g1, g1f⟩ := MX7.out.res 1 (by omega)
                obtain ⟨x0a, x0b⟩ := MX7.out.c0
                obtain ⟨x1a, x1b⟩ := MX7.out.c1
                go_wp2
                refine bodyPost_ret (v := .agg #[.slice As sn cs, .slice (some ⟨g, 0, none⟩) (m + 1) cr]) (by simp [results, Try.results51, go_sem, g0, g1]) rfl ?_
                obtain ⟨f1, f2, f3⟩ := MX7.out.fin (.slice As sn cs) (.slice (some ⟨g, 0, none⟩) (m + 1) cr)
                have f4 := f1.size
                exact ⟨As, cs, (some ⟨g, 0, none⟩), cr, sn, (m + 1), rfl, by omega, by omega, (TI7.out.kept f1 (oth_some (.inl (by omega)))).more (by omega) (by omega), (ER7.out.kept f1 (oth_some (.inl (by omega)))).more (by omega) (by omega) (Nat.le_refl _), f2, f3.more (by omega)⟩
            · obtain rfl : nv = 0 := by omega
              clear x0a x0b
              obtain ⟨e0, g0, g0f⟩ := MX4.out.res 0 (by omega)
              obtain ⟨e1, g1, g1f⟩ := MX4.out.res 1 (by omega)
              obtain ⟨x0a, x0b⟩ := MX4.out.c0
              obtain ⟨x1a, x1b⟩ := MX4.out.c1
              go_wp2
              refine bodyPost_ret (v := .agg #[.slice As sn cs, .slice (some ⟨g, 0, none⟩) (m + 1) cr]) (by simp [results, Try.results51, go_sem, g0, g1]) rfl ?_
              obtain ⟨f1, f2, f3⟩ := MX4.out.fin (.slice As sn cs) (.slice (some ⟨g, 0, none⟩) (m + 1) cr)
              have f4 := f1.size
              exact ⟨As, cs, (some ⟨g, 0, none⟩), cr, sn, (m + 1), rfl, by omega, by omega, (TI4.out.kept f1 (oth_some (.inl (by omega)))).more (by omega) (by omega), (ER4.out.kept f1 (oth_some (.inl (by omega)))).more (by omega) (by omega) (Nat.le_refl _), f2, f3.more (by omega)⟩
          · obtain rfl : n = 0 := by omega
            clear x0a x0b x1a x1b
            obtain ⟨e0, g0, g0f⟩ := MX4.out.res 0 (by omega)
            obtain ⟨e1, g1, g1f⟩ := MX4.out.res 1 (by omega)
            obtain ⟨x0a, x0b⟩ := MX4.out.c0
            obtain ⟨x1a, x1b⟩ := MX4.out.c1
            go_wp2
            refine bodyPost_ret (v := .agg #[.slice As sn cs, .slice Ar 0 cr]) (by simp [results, Try.results51, go_sem, g0, g1]) rfl ?_
            obtain ⟨f1, f2, f3⟩ := MX4.out.fin (.slice As sn cs) (.slice Ar 0 cr)
            have f4 := f1.size
            exact ⟨As, cs, Ar, cr, sn, 0, rfl, by omega, by omega, (TI4.out.kept f1 (oth_some (.inl (by omega)))).more (by omega) (by omega), (ER4.out.kept f1 (oth_some (.inl (by omega)))).more (by omega) (by omega) (Nat.le_refl _), f2, f3.more (by omega)⟩
        · have hd3 : (x == 3) = false := by rw [beq_eq_false_iff_ne]; exact hk3
          by_cases hk4 : x = 4
          · subst hk4
            clear hx0 hx1
            obtain ⟨x0a, x0b⟩ := MX4.out.c0
            obtain ⟨x1a, x1b⟩ := MX4.out.c1
            by_cases hp : 0 < n
            · have hpI : (0 : Int) < (n : Int) := by omega
              obtain ⟨g, cp, c, e, hg1, hg2, -, hcell, hfr, -⟩ := ER4.out.at_ hp
              cases e
              have hu0 := hcell 3 (by omega)
              have hf0 := hfr 3
              simp only [Nat.zero_mul, Nat.zero_add] at hu0
              clear hcell hfr
              have HBl := Lib.hid (fun o => bl_alloc (Below.drew (Below.refl w4.heap.size w4)) o)
              have HAt := Lib.hid (fun o => heap_alloc_new w4.drew o)
              have hszl : (#[.int .i64 1001, .int .i64 (-1001), .int .i64 1000] : Array Value).size = 3 := rfl
              have hl0 : 0 < 3 := by omega
              have hl1 : 3 ≤ 1000 := by omega
              have hKb : K + 1 ≤ 1000000 := by omega
              have hneR : w4.heap.size ≠ R := by omega
              have hRm : R < mid := by omega
              have hRs : R < w.heap.size + 1 + 1 := by omega
              have x1l := kc (bl_alloc (Below.refl w4.heap.size w4) (.cells #[.int .i64 1001, .int .i64 (-1001), .int .i64 1000] 3)) x1a
              go_upto_region 18 with fail
              go_region_law (first
                  | (go_simp; go_at_call 84; refine (num_from (W := w4) (HBl.out _) R _ w4.heap.size 3 _ _ hKb MX4.out.rd hneR (HAt.out _) hszl hl0 hl1 (lit_all [1001, -1001, 1000])).mono ?_; rintro e w6 ⟨y, rfl, hym, hg, hr⟩; have MX6 := Lib.hid (MX4.out.ask hg hr); have TI6 := Lib.hid (TI4.out.kept hg (oth_some (.inl hRs))); have ER6 := Lib.hid (ER4.out.kept hg (oth_some (.inl hRm))); have hz6 := hg.size; replace x1a := MX6.out.c1.1; obtain ⟨g', cp', c', e', hg1', hg2', -, hcell, hfr, -⟩ := ER6.out.at_ hp; cases e'; have hu0' := hcell 3 (by omega); have hf0' := hfr 3; simp only [Nat.zero_mul, Nat.zero_add] at hu0'; clear hcell hfr; clear hg hr hym))
              all_goals
                have hgm : g < X := by obtain ⟨xs, -, h3, -⟩ := ER6.out; exact h3 g rfl
                have MX7 := Lib.hid (MX6.out.grow1 (g := g) (o := 3) (u := .int .i64 y) (by omega) (by omega) (by omega))
                have TI7 := Lib.hid (TI6.out.kept (gb_set w6 ⟨g, 3, none⟩ (.int .i64 y)) (oth_some (.inr (by omega))))
                have ER7 := Lib.hid (show ER (w6.setCell ⟨g, 3, none⟩ (.int .i64 y)) mid X (.slice (some ⟨g, 0, none⟩) n cr) n 22 from by have := ER6.out.put (i := 0) (o := 3) (by omega) y; simpa using this)
                have hz7 : (w6.setCell ⟨g, 3, none⟩ (.int .i64 y)).heap.size = w6.heap.size := by simp [World.setCell]
                generalize w6.setCell ⟨g, 3, none⟩ (.int .i64 y) = w7 at *
                clear x0a x0b x1a x1b hu0 hf0 hu0' hf0' HBl HAt MX6 TI6 ER6 MX4 TI4 ER4 x1l
                obtain ⟨e0, g0, g0f⟩ := MX7.out.res 0 (by omega)
                obtain ⟨e1, g1, g1f⟩ := MX7.out.res 1 (by omega)
                obtain ⟨x0a, x0b⟩ := MX7.out.c0
                obtain ⟨x1a, x1b⟩ := MX7.out.c1
                go_wp2
                refine bodyPost_ret (v := .agg #[.slice As sn cs, .slice (some ⟨g, 0, none⟩) n cr]) (by simp [results, Try.results51, go_sem, g0, g1]) rfl ?_
                obtain ⟨f1, f2, f3⟩ := MX7.out.fin (.slice As sn cs) (.slice (some ⟨g, 0, none⟩) n cr)
                have f4 := f1.size
                exact ⟨As, cs, (some ⟨g, 0, none⟩), cr, sn, n, rfl, by omega, by omega, (TI7.out.kept f1 (oth_some (.inl (by omega)))).more (by omega) (by omega), (ER7.out.kept f1 (oth_some (.inl (by omega)))).more (by omega) (by omega) (Nat.le_refl _), f2, f3.more (by omega)⟩
            · obtain rfl : n = 0 := by omega
              clear x0a x0b x1a x1b
              obtain ⟨e0, g0, g0f⟩ := MX4.out.res 0 (by omega)
              obtain ⟨e1, g1, g1f⟩ := MX4.out.res 1 (by omega)
              obtain ⟨x0a, x0b⟩ := MX4.out.c0
              obtain ⟨x1a, x1b⟩ := MX4.out.c1
              go_wp2
              refine bodyPost_ret (v := .agg #[.slice As sn cs, .slice Ar 0 cr]) (by simp [results, Try.results51, go_sem, g0, g1]) rfl ?_
              obtain ⟨f1, f2, f3⟩ := MX4.out.fin (.slice As sn cs) (.slice Ar 0 cr)
              have f4 := f1.size
              exact ⟨As, cs, Ar, cr, sn, 0, rfl, by omega, by omega, (TI4.out.kept f1 (oth_some (.inl (by omega)))).more (by omega) (by omega), (ER4.out.kept f1 (oth_some (.inl (by omega)))).more (by omega) (by omega) (Nat.le_refl _), f2, f3.more (by omega)⟩
          · have hd4 : (x == 4) = false := by rw [beq_eq_false_iff_ne]; exact hk4
            by_cases hk5 : x = 5
            · subst hk5
              clear hx0 hx1
              obtain ⟨e0, g0, g0f⟩ := MX4.out.res 0 (by omega)
              obtain ⟨e1, g1, g1f⟩ := MX4.out.res 1 (by omega)
              go_wp2
              refine bodyPost_ret (v := .agg #[.slice none 0 0, .slice none 0 0]) (by simp [results, Try.results51, go_sem, g0, g1]) rfl ?_
              obtain ⟨f1, f2, f3⟩ := MX4.out.fin (.slice none 0 0) (.slice none 0 0)
              exact ⟨none, 0, none, 0, 0, 0, rfl, by omega, by omega, TI.nil, ER.nil, f2, f3.more (by omega)⟩
            · have hd5 : (x == 5) = false := by rw [beq_eq_false_iff_ne]; exact hk5
              clear hx0 hx1 hk0 hk1 hk2 hk3 hk4 hk5
              obtain ⟨e0, g0, g0f⟩ := MX4.out.res 0 (by omega)
              obtain ⟨e1, g1, g1f⟩ := MX4.out.res 1 (by omega)
              obtain ⟨x0a, x0b⟩ := MX4.out.c0
              obtain ⟨x1a, x1b⟩ := MX4.out.c1
              go_wp2
              refine bodyPost_ret (v := .agg #[.slice As sn cs, .slice Ar n cr]) (by simp [results, Try.results51, go_sem, g0, g1]) rfl ?_
              obtain ⟨f1, f2, f3⟩ := MX4.out.fin (.slice As sn cs) (.slice Ar n cr)
              have f4 := f1.size
              exact ⟨As, cs, Ar, cr, sn, n, rfl, by omega, by omega, (TI4.out.kept f1 (oth_some (.inl (by omega)))).more (by omega) (by omega), (ER4.out.kept f1 (oth_some (.inl (by omega)))).more (by omega) (by omega) (Nat.le_refl _), f2, f3.more (by omega)⟩
end Go.Proofs.Ytafiikfaeomhpaa

namespace Go.Proofs.Ytafiikfaeomhpaa
open Go.ChangeShapes Go.WideShapes Go.ChangeAt Go.RowKit

section
variable {w0 w w' : World} {R K K' X Y : Nat} {v0 v1 u u' : Value}
theorem gr_bel8 {w w1 w5 : World} {R : Nat} (hb : Below w.heap.size w w1) (hg : Gr R w1 w5) (hR : w.heap.size ≤ R) : Below w.heap.size w w5 :=
  ⟨hg.os.trans hb.os, hg.tape.trans hb.tape, hg.output.trans hb.output, Nat.le_trans hb.size hg.size, fun k hk => (hg.block k (Nat.lt_of_lt_of_le hk hb.size) (by intro e; cases e; omega)).trans (hb.block k hk)⟩
/-- A drawn model in its box X, the result's box Y, the reader R. -/
structure DX (w0 w : World) (R K X Y : Nat) (v0 v1 : Value) : Prop where
  hne : X ≠ Y
  hXR : X ≠ R
  hYR : Y ≠ R
  hX : w0.heap.size ≤ X
  hY : w0.heap.size ≤ Y
  hR : w0.heap.size ≤ R
  y0 : ∃ v, Cel w Y 0 v
  y1 : ∃ v, Cel w Y 1 v
  x0 : Cel w X 0 v0
  x1 : Cel w X 1 v1
  bl : Below w0.heap.size w0 w
  rd : Rdr w R K
theorem DX.bel (h : DX w0 w R K X Y v0 v1) (hb : Below w.heap.size w w') : DX w0 w' R K X Y v0 v1 :=
  ⟨h.hne, h.hXR, h.hYR, h.hX, h.hY, h.hR, h.y0.imp fun _ q => q.below hb, h.y1.imp fun _ q => q.below hb, h.x0.below hb, h.x1.below hb, bl_trans h.bl hb, h.rd.bel hb⟩
theorem DX.ask (h : DX w0 w R K X Y v0 v1) (hg : Gr R w w') (hr : Rdr w' R K') : DX w0 w' R K' X Y v0 v1 :=
  ⟨h.hne, h.hXR, h.hYR, h.hX, h.hY, h.hR, h.y0.imp fun _ q => hg.cel q h.hYR, h.y1.imp fun _ q => hg.cel q h.hYR, hg.cel h.x0 h.hXR, hg.cel h.x1 h.hXR, gr_bel8 h.bl hg h.hR, hr⟩
theorem DX.fin (h : DX w0 w R K X Y v0 v1) (u u' : Value) : w.grownBy ((w.setCell ⟨Y, 0, none⟩ u).setCell ⟨Y, 1, none⟩ u') (some Y) ∧ Below w0.heap.size w0 ((w.setCell ⟨Y, 0, none⟩ u).setCell ⟨Y, 1, none⟩ u') :=
  ⟨Gr.trans (gb_set _ ⟨Y, 0, none⟩ _) (gb_set _ ⟨Y, 1, none⟩ _), (h.bl.setCell h.hY _).setCell h.hY _⟩
end
/-- A drawn model: what it reads as. -/
structure MRd (w0 w : World) (As Ar : Option Addr) (s : Lst) (n : Nat) (q : Nat → Rul) : Prop where
  hs : s.n ≤ 10
  hn : n ≤ 10
  fit : ∀ i, i < n → (q i).fit 22
  rs : RdI w w.heap.size As s.n s.x
  rr : RdRs w w.heap.size Ar n q
  bl : Below w0.heap.size w0 w
theorem MRd.later {w0 w w' : World} {As Ar : Option Addr} {s : Lst} {n : Nat} {q : Nat → Rul} (h : MRd w0 w As Ar s n q) (hb : Below w.heap.size w w') : MRd w0 w' As Ar s n q :=
  ⟨h.hs, h.hn, h.fit, h.rs.later hb, h.rr.later hb, bl_trans h.bl hb⟩
theorem Rul.fit_more {q : Rul} {m m' : Nat} (h : q.fit m) (hm : m ≤ m') : q.fit m' :=
  ⟨Nat.le_trans h.1 hm, Nat.le_trans h.2.1 hm, Nat.le_trans h.2.2.1 hm, fun i hi => Nat.le_trans (h.2.2.2 i hi) hm⟩
/-- A drawn model: in which blocks it lies. -/
structure MT (w0 w : World) (As Ar : Option Addr) (sn cs n cr : Nat) : Prop where
  hs : sn ≤ 10
  hn : n ≤ 10
  ti : TI w w0.heap.size w.heap.size (.slice As sn cs) sn
  er : ER w w0.heap.size w.heap.size (.slice Ar n cr) n 22
  bl : Below w0.heap.size w0 w
theorem MT.rd {w0 w : World} {As Ar : Option Addr} {sn cs n cr : Nat} (h : MT w0 w As Ar sn cs n cr) : ∃ (s : Lst) (q : Nat → Rul), s.n = sn ∧ MRd w0 w As Ar s n q := by
  obtain ⟨A, c, v, e, hr⟩ := h.ti.rd
  obtain ⟨A', c', q, e', hf, hq⟩ := h.er.rd
  cases e; cases e'
  exact ⟨⟨sn, v⟩, q, rfl, h.hs, h.hn, hf, hr, hq, h.bl⟩
theorem MT.mk' {w0 w w2 : World} {lo hi lo' hi' sn cs n cr Y : Nat} {As Ar : Option Addr} (h0 : TI w lo hi (.slice As sn cs) sn) (h1 : ER w lo' hi' (.slice Ar n cr) n 22) (hs : sn ≤ 10) (hn : n ≤ 10) (hg : w.grownBy w2 (some Y)) (hY : Y < lo) (hY' : Y < lo') (hb : Below w0.heap.size w0 w2) (k0 : w0.heap.size ≤ lo) (k1 : hi ≤ w2.heap.size) (k2 : w0.heap.size ≤ lo') (k3 : hi' ≤ w2.heap.size) : MT w0 w2 As Ar sn cs n cr :=
  ⟨hs, hn, (h0.kept hg (oth_some (.inl hY))).more k0 k1, (h1.kept hg (oth_some (.inl hY'))).more k2 k3 (Nat.le_refl _), hb⟩
theorem MRd.mk' {w0 w w2 : World} {lo hi lo' hi' sn cs n cr Y : Nat} {As Ar : Option Addr} (h0 : TI w lo hi (.slice As sn cs) sn) (h1 : ER w lo' hi' (.slice Ar n cr) n 22) (hs : sn ≤ 10) (hn : n ≤ 10) (hg : w.grownBy w2 (some Y)) (hY : Y < lo) (hY' : Y < lo') (hb : Below w0.heap.size w0 w2) : ∃ (s : Lst) (q : Nat → Rul), s.n = sn ∧ MRd w0 w2 As Ar s n q := by
  obtain ⟨A, c, v, e, hr⟩ := (h0.kept hg (oth_some (.inl hY))).rd
  obtain ⟨A', c', q, e', hf, hq⟩ := (h1.kept hg (oth_some (.inl hY'))).rd
  cases e; cases e'
  exact ⟨⟨sn, v⟩, q, rfl, hs, hn, hf, hr, hq, hb⟩

end Go.Proofs.Ytafiikfaeomhpaa

