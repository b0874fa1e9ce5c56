/- A range over the iterator of solutions whose body never leaves early (no claim of its own). Conditions: as each theorem states. · What an iterator over solutions is made of, and a propagator under it (no claim of its own). Conditions: as each theorem states. · The number of solutions, by the program (no claim of its own). Conditions: as each theorem states. · The number of solutions, by the specification (no claim of its own). Conditions: as each theorem states. · The literals that are true under values (no claim of its own). Conditions: as each theorem states. · A range over the iterator of solutions whose body leaves at the first (no claim of its own). Conditions: as each theorem states. · The first of what an iterator over solutions gives (no claim of its own). Conditions: as each theorem states. · The first solution that is not before some values (no claim of its own). Conditions: as each theorem states. · The first solution that is not before some values: the program, the specification (no claim of its own). Conditions: as each theorem states. · The first solution that is not before some values: the specification (no claim of its own). Conditions: as each theorem states. -/
import Derived.Test.YtaenbajghblgiaaSrcC
import Derived.RangeFuncNested
import Derived.RangeFuncBound
import Derived.RangeFuncCalls
import Derived.RangeFuncLeaves
import Derived.RangeFuncFrom
import Derived.Test.YtaenbajghblgiaaSrcD
import Derived.RangeFuncKeeps
import Derived.OwnWalkIn
import Derived.TacticsInMore
import Derived.Shelf.Abstract
import Derived.LoopNIn
import Derived.LoopIn
import Derived.Test.YtaenbajghblgiaaSolP
import Derived.Deep.Onto
import Derived.Test.YtaenbajghblgiaaFbR
namespace Go.Proofs.Ytaenbajghblgiaa
open Go.ChangeShapes Go.WideShapes Go.ChangeAt Go.RowKit Go.Shelf

theorem Kx.refl (K : Nat → Prop) (A : World) : Kx K A A := ⟨rfl, rfl, rfl, Nat.le_refl _, fun _ _ h _ _ => h⟩
theorem Kx.trans {K : Nat → Prop} {A B C : World} (h : Kx K A B) (k : Kx K B C) : Kx K A C :=
  ⟨k.os.trans h.os, k.tape.trans h.tape, k.output.trans h.output, Nat.le_trans h.size k.size, fun i o hi h0 h1 => k.block i o (h.block i o hi h0 h1) h0 h1⟩
theorem Kx.putObj (K : Nat → Prop) {A : World} {l : Nat} {r : Obj} (hr : A.heap[l]? = some r) (hc : r.isCells = false) (o' : Obj) : Kx K A (A.putObj l o') :=
  ⟨rfl, rfl, rfl, by simp, fun k o hk hcc _ => by
    by_cases e : k = l
    · subst e
      rw [hr] at hk
      cases hk
      rw [hc] at hcc
      cases hcc
    · exact (World.putObj_heap_other e).trans hk⟩
theorem Kx.alloc (K : Nat → Prop) (A : World) (o' : Obj) : Kx K A (A.alloc o') :=
  ⟨rfl, rfl, rfl, by simp, fun k _ hk _ _ => (Below.heap_alloc A o' k (lt_heap hk)).trans hk⟩
theorem Kx.setC {K : Nat → Prop} (A : World) {C : Nat} (hK : K C) (o : Nat) (u : Value) : Kx K A (A.setCell ⟨C, o, none⟩ u) :=
  ⟨rfl, rfl, rfl, by simp [World.setCell], fun k x hk _ h => (Below.heap_setCell A ⟨C, o, none⟩ u k (fun e => h (e ▸ hK))).trans hk⟩
/-- What may turn beside the box S: what a search owns, and what is newer than n. -/
def isNew (n N k : Nat) (o : Obj) : Prop := isOwn N k o ∨ n ≤ k
theorem ms_putObj {n N S l : Nat} {A : World} (hl : n ≤ l) (o' : Obj) : Ms (isNew n N) S A (A.putObj l o') :=
  ⟨rfl, rfl, rfl, by simp, fun k _ hk _ h => by
    have hne : k ≠ l := fun e => h (.inr (by omega))
    exact (World.putObj_heap_other hne).trans hk⟩
variable {n : Nat} {P : Program}
set_option maxHeartbeats 1000000 in
theorem range_sol {g : Operand} {ps : Array Tmp} {assign body : Code} {Q : Exit → Act → World → Prop} {a : Act} {w : World} {K : Nat → Prop} {N S : Nat} {L : List Nat}
    (h1 : 1 ≤ n) {gf : Nat} {lb : Array Value} (hg : a.eval g = .func (.func gf) #[] lb) (eg : ∀ args w, (callFunc gf args).run P w = .ok (.enter gf args) w)
    (hseq : ∀ (l : Nat) (J Jx : List Nat → World → Prop) (W : World), Below w.heap.size w W → (∀ pre A B, J pre A → Ms (isOwn N) S A B → J pre B) →
      (∀ pre k G W1, J pre W1 → pre ++ [k] <+: L → N ≤ G → OwnB W1 G 12 12 (valN k) → YieldAt Fence.wide (n - 1 - 1) P l #[.slice (some ⟨G, 0, none⟩) 12 12] W1 fun e W' => (e = .returned (.bool true) ∧ J (pre ++ [k]) W' ∧ Kx K W1 W') ∨ (e = .returned (.bool false) ∧ Jx (pre ++ [k]) W')) →
      J [] W → CallsIn Fence.wide (n - 1) P gf (#[.func (.yield l) #[] #[]] ++ lb) W fun e W' => (∃ v, e = .returned v) ∧ (J L W' ∨ ∃ pre, Jx pre W'))
    (hSw : S < w.heap.size) (hps : ps.size = 1)
    (I : List Nat → World → Prop) (hI : ∀ pre A B, I pre A → Ms (isNew w.heap.size N) S A B → I pre B) (h0 : I [] w)
    (hround : ∀ (l : Nat) (pre : List Nat) (k G : Nat) (W : World) (r : Obj), w.heap.size ≤ l → W.heap[l]? = some r → r.isCells = false → I pre W → pre ++ [k] <+: L → N ≤ G → OwnB W G 12 12 (valN k) →
      assign.wpIn (Fence.wide.inRound l) (n - 1 - 1) P (Exit.then (fun a' W' => KeepsOthers W W' ∧ Kx K W W' ∧ ∀ o', body.wpIn (Fence.wide.inRound l) (n - 1 - 1) P (fun e _ W2 => e = .normal ∧ KeepsOthers (W'.putObj l o') W2 ∧ Kx K (W'.putObj l o') W2 ∧ I (pre ++ [k]) W2) a' (W'.putObj l o')) (fun _ _ _ => False))
        { tmps := (ps.zip (#[.slice (some ⟨G, 0, none⟩) 12 12] : Array Value)).foldl (fun t (p, v) => t.setIfInBounds p v) a.tmps, defers := [] } W)
    (hdone : ∀ (D : Nat) (W : World), w.heap.size ≤ D → I L W → W.heap[D]? = some (.deferred (some [])) → Q .normal { a with defers := { target := .collected D, args := #[] } :: a.defers } W) :
    (Code.rangeFunc g ps assign body).wpIn Fence.wide n P Q a w := by
  refine wpIn_rangeFunc fun fn hfn => ?_
  rw [show Fence.wide.round = none from rfl]
  obtain ⟨rec, hrec⟩ : ∃ rec : LoopState → Option Code → Loop, rec = fun st pe => { state := st, pending := pe, fn, tmps := a.tmps, params := ps, assign, body, defers := w.heap.size } := ⟨_, rfl⟩
  obtain ⟨W1, hW1⟩ : ∃ W1, (w.alloc (.deferred (some []))).alloc (.loop (rec .ready none)) = W1 := ⟨_, rfl⟩
  have hL1 : W1.heap[w.heap.size + 1]? = some (.loop (rec .ready none)) := by
    rw [← hW1]
    have := World.alloc_heap_new (w.alloc (.deferred (some []))) (.loop (rec .ready none))
    rwa [World.size_alloc] at this
  have hD1 : W1.heap[w.heap.size]? = some (.deferred (some [])) := by
    rw [← hW1]
    exact (Below.heap_alloc _ _ _ (by simp)).trans (World.alloc_heap_new w _)
  have hbW : Below w.heap.size w W1 := by
    rw [← hW1]
    exact bl_alloc (bl_alloc (Below.refl _ _) _) _
  have hI1 : I [] W1 := hI _ _ _ h0 (ms_below hbW)
  refine ⟨w.heap.size + 1, [{ target := .collected w.heap.size, args := #[] }], W1, { target := .fn (.func gf) lb, args := #[.func (.yield (w.heap.size + 1)) #[] #[]] }, W1, gf,
    #[.func (.yield (w.heap.size + 1)) #[] #[]] ++ lb, W1, ?_, ?_, ?_, ?_, fun _ => h1, ?_⟩
  · rw [← hW1, hrec]
    exact run_enterLoop_outer _ _ _ _ _
  · simp only [resolve, hg]
    simp [go_sem]
  · intro f' hf'
    simp [Target.leads] at hf'
    subst hf'
    exact trivial
  · simp [invoke, go_sem, eg]
  · refine (hseq (w.heap.size + 1) (fun pre W => I pre W ∧ W.heap[w.heap.size + 1]? = some (.loop (rec .ready none)) ∧ W.heap[w.heap.size]? = some (.deferred (some []))) (fun _ _ => False) W1 hbW ?_ ?_ ⟨hI1, hL1, hD1⟩).mono ?_
    · rintro pre A B ⟨hi, hl, hd⟩ hm
      exact ⟨hI _ _ _ hi (hm.mono fun _ _ h => .inl h), hm.block _ _ hl (by omega) (by rintro (⟨_, _, _, h⟩ | ⟨_, _, _, h⟩) <;> cases h), hm.block _ _ hd (by omega) (by rintro (⟨_, _, _, h⟩ | ⟨_, _, _, h⟩) <;> cases h)⟩
    · rintro pre k G W ⟨hi, hl, hd⟩ hpre hG hO
      have k1 : w.heap.size + 1 < W.heap.size := lt_heap hl
      have hy := run_yield (P := P) (args := #[.slice (some ⟨G, 0, none⟩) 12 12]) hl (by rw [hrec]; exact hps.symm)
      rw [hrec] at hy
      refine ⟨fn, _, assign, body, hy, roundIn_of_wpIn hfn (wpIn_mono (hround _ pre k G W _ (by omega) hl rfl hi hpre hG hO) ?_)⟩
      rintro e a' W' hp
      cases e with
      | normal =>
        obtain ⟨hk1, hh1, hbody⟩ := hp
        have hl1 := hk1.same _ _ hl rfl
        have hd1 := hk1.same _ _ hd rfl
        have k2 : w.heap.size + 1 < W'.heap.size := lt_heap hl1
        refine ⟨_, run_beginRound hl1 (by rw [hrec]), ?_⟩
        have hl2 : (W'.putObj (w.heap.size + 1) (.loop { rec .ready none with state := .busy })).heap[w.heap.size + 1]? = some (.loop { rec .ready none with state := .busy }) := World.putObj_heap_same k2
        have hd2 : (W'.putObj (w.heap.size + 1) (.loop { rec .ready none with state := .busy })).heap[w.heap.size]? = some (.deferred (some [])) := (World.putObj_heap_other (by omega)).trans hd1
        refine wpIn_mono (hbody _) ?_
        rintro e a2 W2 ⟨rfl, hk3, hh3, hi3⟩
        have hl3 := hk3.same _ _ hl2 rfl
        have hd3 := hk3.same _ _ hd2 rfl
        have k3 : w.heap.size + 1 < W2.heap.size := lt_heap hl3
        have hr := run_endRound (P := P) none hl3
        rw [hrec] at hr
        refine ⟨_, _, hr, .inl ⟨rfl, ⟨?_, ?_, (World.putObj_heap_other (by omega)).trans hd3⟩, ?_⟩⟩
        · exact hI _ _ _ hi3 (ms_putObj (by omega) _)
        · rw [hrec]
          exact World.putObj_heap_same k3
        · exact ((hh1.trans (Kx.putObj K hl1 rfl _)).trans hh3).trans (Kx.putObj K hl3 rfl _)
      | ret => exact hp.elim
      | exit id => exact hp.elim
      | goto t => exact hp.elim
      | panic ch => exact hp.elim
      | outgrown => exact hp.elim
    · rintro e W2 ⟨⟨v, rfl⟩, ⟨hi, hl, hd⟩ | ⟨_, h⟩⟩
      · have hr := run_endLoop (P := P) hl (by rw [hrec]; simp)
        rw [hrec] at hr
        exact ⟨none, _, hr, hdone _ _ (Nat.le_refl _) (hI _ _ _ hi (ms_putObj (by omega) _)) ((World.putObj_heap_other (by omega)).trans hd)⟩
      · exact h.elim
end Go.Proofs.Ytaenbajghblgiaa

namespace Go.Proofs.Ytaenbajghblgiaa
open Go.ChangeShapes Go.WideShapes Go.ChangeAt Go.RowKit Go.Shelf

theorem cell_block {w : World} {b o : Nat} {v : Value} (h : w.cell? ⟨b, o, none⟩ = some v) : ∃ cs T fr, w.heap[b]? = some (.cells cs T fr) ∧ o < cs.size := by
  have hlt := World.block_lt_of_cell? w ⟨b, o, none⟩ h
  have he : w.heap[b]? = some w.heap[b] := Array.getElem?_eq_getElem hlt
  unfold World.cell? at h
  simp only [he] at h
  cases hb : w.heap[b] with
  | cells cs t fr =>
    rw [hb] at he
    refine ⟨cs, t, fr, he, ?_⟩
    simp [hb] at h
    exact (Array.getElem?_eq_some_iff.1 h).1
  | _ => simp [hb] at h
section
variable {K : Nat → Prop} {N S B m s C : Nat} {lv : Value} {p : Nat → Con} {sl : Nat → Int} {us : Nat → List (Nat × Int)} {uv : Nat → Value} {w w' : World}
theorem row_at {base : Nat} {e : TypeId} {size n : Nat} {v : Value} {xs : List Value} (h : w.ownsRow base e size v n xs) (hk : ∀ g cs, v.ownBlock = some g → w.heap[g]? = some (.cells cs e (0, 0)) → w'.heap[g]? = some (.cells cs e (0, 0))) : w'.ownsRow base e size v n xs := by
  refine ⟨h.1, ?_⟩
  rcases h.2 with h0 | ⟨g, cap, cur, e1, h1, h2, h3⟩
  · exact .inl h0
  · exact .inr ⟨g, cap, cur, e1, h1, hk g cur (by rw [e1]; rfl) h2, h3⟩
/-- A propagator all of whose blocks are at N or past it stays while a search goes on, if the one block C of the round's own has a single cell. -/
theorem Pg.rl (h : Pg w (fun k => k < N) B lv m s p sl us uv) {cs : Array Value} {T : TypeId} {fr : Nat × Nat} (hC : w.heap[C]? = some (.cells cs T fr)) (h1 : cs.size ≤ 1) (hCN : C < N) (hS : N ≤ S) {u : Value} (hbS : BoxS w S B u) (hr : Rl (fun k => k = C) N S w w') :
    Pg w' (fun k => k < N ∧ k ≠ C) B lv m s p sl us uv := by
  have hNB : N ≤ B := Nat.le_of_not_lt h.f1
  have hNw := h.f0
  have hty : ∀ k x (t : TypeId) f, w.heap[k]? = some (.cells x t f) → N ≤ k → t ≠ 84 → t ≠ 121 → t ≠ 95 → w'.heap[k]? = some (.cells x t f) := fun k x t f hk hNk h2 h3 h4 => by
    refine hr.block k _ hk rfl (fun e => ?_) (fun e => ?_) ?_
    · have e' : k = C := e
      omega
    · subst e
      have h5 : w.heap[k]? = _ := hbS
      rw [hk] at h5
      injection h5 with h5
      injection h5 with _ h6 _
      exact h4 h6
    · rintro (⟨_, _, _, e⟩ | ⟨_, _, _, e⟩) <;> injection e with _ e _
      · exact h2 e
      · exact h3 e
  have hlo : ∀ k, k < N → k ≠ C → ∀ x t f, w.heap[k]? = some (.cells x t f) → w'.heap[k]? = some (.cells x t f) := fun k hk hkC x t f hx => by
    refine hr.block k _ hx rfl hkC (by omega) ?_
    rintro (⟨h, _⟩ | ⟨h, _⟩) <;> omega
  refine ⟨?_, ?_, ?_, h.d1, h.d2, h.d3, fun k hk => Nat.lt_of_lt_of_le (hNw k hk.1) hr.size, fun hh => h.f1 hh.1, fun b hb hh => h.f2 b hb hh.1, fun j hj b hb hh => h.f3 j hj b hb hh.1⟩
  · obtain ⟨cs, c1, c2⟩ := h.cel
    exact ⟨cs, hty B _ _ _ c1 hNB (by decide) (by decide) (by decide), c2⟩
  · obtain ⟨xs, hx, hc⟩ := h.lst
    refine ⟨xs, row_at hx fun g cs hg hh => hty g _ _ _ hh (Nat.le_of_not_lt (h.f2 g hg)) (by decide) (by decide) (by decide), fun i hi => ?_⟩
    obtain ⟨Ai, ci, e1, e2, e3⟩ := hc i hi
    refine ⟨Ai, ci, e1, e2, fun hn => ?_⟩
    obtain ⟨b, off, eb, hb, hcel⟩ := e3 hn
    have hbC : b ≠ C := fun e => by
      subst e
      obtain ⟨cs', T', fr', g1, g2⟩ := cell_block (hcel 0 hn).2
      rw [hC] at g1
      cases g1
      omega
    obtain ⟨cs', T', fr', g1, _⟩ := cell_block (hcel 0 hn).1
    have hbk : w'.heap[b]? = w.heap[b]? := (hlo b hb hbC _ _ _ g1).trans g1.symm
    exact ⟨b, off, eb, ⟨hb, hbC⟩, fun i hi => ⟨(World.cell?_of_block hbk).trans (hcel i hi).1, (World.cell?_of_block hbk).trans (hcel i hi).2⟩⟩
  · intro j hj
    exact row_at (h.use j hj) fun g cs hg hh => hty g _ _ _ hh (Nat.le_of_not_lt (h.f3 j hj g hg)) (by decide) (by decide) (by decide)
end

set_option maxRecDepth 100000 in
set_option maxHeartbeats 800000 in
theorem trueLits_nil (w : World) : Calls Try.prog 55 #[.slice none 0 0] w fun e w' => e = .returned (.slice none 0 0) ∧ Below w.heap.size w w' := by
  go_enter Try.func55, Try.ntmps55
  go_wp2
  go_loopw [3, 9] (fun l i wr => l = .slice none 0 0 ∧ i = .int .i64 0 ∧ wr = w) (fun _ _ _ => 0)
  case atStart => exact ⟨rfl, rfl, rfl⟩
  case round =>
    obtain ⟨rfl, rfl, rfl⟩ := hrel
    go_wp2
    all_goals try go_ret
    all_goals trace_state
    all_goals exact ⟨rfl, Below.refl _ _⟩

set_option maxRecDepth 100000 in
set_option maxHeartbeats 800000 in
/-- The iterator over all solutions of constraints. -/
theorem solFrom_any (A : Option Addr) (m cap : Nat) (p : Nat → Con) (w : World) (hm : m ≤ 1400) (hr : RdP w w.heap.size A m p) (hok : ∀ i, i < m → okC (p i) ∧ (p i).n ≤ 1048576) :
    Calls Try.prog 33 #[.slice A m cap, .slice none 0 0] w fun e w' => ∃ B S Bx lv uv, e = .returned (.func (.func 77) #[] #[.pointer (some ⟨Bx, 0, none⟩)]) ∧ Pg w' (fun k => k < w.heap.size) B lv m m p (fun i => slkC (p i) z0) (usP p m) uv ∧ Below w.heap.size w w' ∧ w.heap.size ≤ S ∧ w.heap.size ≤ Bx ∧ BoxS w' S B (.slice none 0 0) ∧ w'.heap[Bx]? = some (.cells #[.pointer (some ⟨S, 0, none⟩)] 90 (0, 0)) := by
  have HR := Lib.hid hr
  have HO := Lib.hid hok
  clear hr hok
  go_enter Try.func33, Try.ntmps33
  go_wp2_with fail
  refine (newPg_any A m cap p _ hm HR.out HO.out).mono ?_
  rintro e w1 ⟨B, lv, uv, rfl, hpg, hb⟩
  have HP := Lib.hid hpg
  have HB := Lib.hid hb
  clear hpg hb
  go_wp2_with fail
  refine (trueLits_nil _).mono ?_
  rintro e w2 ⟨rfl, hb⟩
  have HP2 := Lib.hid (HP.out.below hb)
  have HB2 := Lib.hid (bl_trans HB.out hb)
  clear hb HP HB
  go_wp2
  go_ret
  have hz := HB2.out.size
  refine ⟨B, w2.heap.size, w2.heap.size + 1, lv, uv, rfl, (HP2.out.below (bl_alloc (Below.refl _ _) _)).below (bl_alloc (Below.refl _ _) _), bl_trans HB2.out (bl_alloc (bl_alloc (Below.refl _ _) _) _), hz, by omega, ?_, ?_⟩
  · exact (Below.heap_alloc _ _ _ (by simp)).trans (heap_alloc_new _ _)
  · have h9 := heap_alloc_new (w2.alloc (.cells #[.pointer (some ⟨B, 0, none⟩), .slice none 0 0, .bool true, .pointer none] 95)) (.cells #[.pointer (some ⟨w2.heap.size, 0, none⟩)] 90)
    rw [World.size_alloc] at h9
    exact h9
end Go.Proofs.Ytaenbajghblgiaa

namespace Go.Proofs.Ytaenbajghblgiaa
open Go.ChangeShapes Go.WideShapes Go.ChangeAt Go.RowKit Go.Shelf

attribute [local go_sem] Oper.semAt_some

theorem Ms.belowN {n N S c : Nat} {A B : World} (h : Ms (isNew n N) S A B) (h1 : c ≤ N) (h2 : c ≤ n) (h3 : c ≤ S) (h4 : c ≤ A.heap.size) : Below c A B :=
  ⟨h.os, h.tape, h.output, h.size, fun k hk => by
    have he : A.heap[k]? = some (A.heap[k]'(by omega)) := Array.getElem?_eq_getElem (by omega)
    refine (h.block k _ he (by omega) ?_).trans he.symm
    rintro ((⟨h5, _⟩ | ⟨h5, _⟩) | h5) <;> omega⟩
/-- A cell that is not frozen. -/
def Cel1 (W : World) (j : Nat) (v : Value) : Prop := W.cell? ⟨j, 0, none⟩ = some v ∧ W.frozen? ⟨j, 0, none⟩ = false
section
variable {W W' : World} {j : Nat} {v u : Value}
theorem Cel1.same (h : Cel1 W j v) (hh : W'.heap[j]? = W.heap[j]?) : Cel1 W' j v :=
  ⟨(World.cell?_of_block (w := W) hh).trans h.1, by have := h.2; simp only [World.frozen?, hh] at this ⊢; exact this⟩
theorem Cel1.lt (h : Cel1 W j v) : j < W.heap.size := World.block_lt_of_cell? W ⟨j, 0, none⟩ h.1
theorem Cel1.put (h : Cel1 W j v) : Cel1 (W.setCell ⟨j, 0, none⟩ u) j u :=
  ⟨World.cell?_setCell_same' _ _ _ (by rw [h.1]; rfl), by rw [World.frozen?_setCell]; exact h.2⟩
end
def sols (m : Nat) (p : Nat → Con) : List Nat := solL (qS p m) []
theorem sols_len (m : Nat) (p : Nat → Con) : (sols m p).length ≤ 4096 := by
  unfold sols solL
  exact Nat.le_trans (List.length_filter_le _ _) (by simp)

set_option maxRecDepth 100000 in
set_option maxHeartbeats 3200000 in
theorem countLoop_in (n : Nat) (hn : 3 ≤ n) (A : Option Addr) (m cap : Nat) (p : Nat → Con) (w : World) (hm : m ≤ 1048576) (hs : ∀ i, i < m → (p i).n ≤ 1048576) (hv : probB m p = true) (hr : RdP w w.heap.size A m p) :
    CallsIn Fence.wide n Try.prog 11 #[.slice A m cap] w fun e W' => e = .returned (.int .i64 (sols m p).length) ∧ Below w.heap.size w W' := by
  have h1 : 1 ≤ n := by omega
  have hpo := prob_ok hv
  have HOk := Lib.hid (show ∀ i, i < m → okC (p i) ∧ (p i).n ≤ 1048576 from fun i hi => ⟨hpo.2 i hi, hs i hi⟩)
  have hm4 : m ≤ 1400 := by omega
  have Hpr := Lib.hid (implProblem_any A m cap p w hm hs hr)
  have Hr := Lib.hid hr
  have Hlen := Lib.hid (sols_len m p)
  rw [hv] at Hpr
  clear hpo hs hr hv
  refine callsIn_of_wp_marks Try.func11 rfl trivial ?_ rfl
  simp only [Try.ntmps11, List.size_toArray, List.length_cons, List.length_nil, Nat.reduceAdd, Nat.reduceSub, Array.replicate_succ, Array.replicate_zero, List.push_toArray, List.append_toArray, List.nil_append, List.cons_append]
  gi_wp2_with fail
  refine ⟨trivial, (callsIn_wide.2 Hpr.out).mono ?_⟩
  rintro e w1 ⟨rfl, hb⟩
  have HB1 := Lib.hid hb
  clear hb Hpr
  gi_wp2_with fail
  have hcb := heap_alloc_new w1 (.cells #[.int .i64 0] 3)
  have HBA := Lib.hid (bl_alloc (Below.refl w1.heap.size w1) (.cells #[.int .i64 0] 3))
  have hsz : (w1.alloc (.cells #[.int .i64 0] 3)).heap.size = w1.heap.size + 1 := World.size_alloc _ _
  generalize w1.alloc (.cells #[.int .i64 0] 3) = w2 at *
  have hw1 := HB1.out.size
  have HB2 := Lib.hid (HB1.out.trans (HBA.out.mono hw1))
  obtain ⟨C, hCe⟩ : ∃ C, w1.heap.size = C := ⟨_, rfl⟩
  rw [hCe] at hcb hsz hw1 ⊢
  have HCb := Lib.hid hcb
  clear hcb HBA
  refine ⟨trivial, (callsIn_wide.2 (solFrom_any A m cap p w2 hm4 (Hr.out.later HB2.out) HOk.out)).mono ?_⟩
  rintro e w3 ⟨B, S, Bx, lv, uv, rfl, hpg, hb, hS, hBx, hbs, hbx⟩
  have hz3 := hb.size
  have HP := Lib.hid hpg
  have HS := Lib.hid hbs
  have HX := Lib.hid hbx
  have HC3 := Lib.hid ((hb.block C (by omega)).trans HCb.out)
  have HB3 := Lib.hid (HB2.out.trans (hb.mono (by omega)))
  have hSw := hbs.lt
  clear hpg hb hbs hbx HCb HB2
  gi_wp2_with fail
  have hN3 : w2.heap.size ≤ w3.heap.size := hz3
  obtain ⟨N, hNe⟩ : ∃ N, w2.heap.size = N := ⟨_, rfl⟩
  rw [hNe] at hsz hS hBx hz3 HP hN3
  have hseq : ∀ (l : Nat) (J Jx : List Nat → World → Prop) (W : World), Below w3.heap.size w3 W → (∀ pre A B, J pre A → Ms (isOwn N) S A B → J pre B) →
      (∀ pre k G W1, J pre W1 → pre ++ [k] <+: sols m p → N ≤ G → OwnB W1 G 12 12 (valN k) → YieldAt Fence.wide (n - 1 - 1) Try.prog l #[.slice (some ⟨G, 0, none⟩) 12 12] W1 fun e W' => (e = .returned (.bool true) ∧ J (pre ++ [k]) W' ∧ Kx (fun k => k = C) W1 W') ∨ (e = .returned (.bool false) ∧ Jx (pre ++ [k]) W')) →
      J [] W → CallsIn Fence.wide (n - 1) Try.prog 77 (#[.func (.yield l) #[] #[]] ++ #[.pointer (some ⟨Bx, 0, none⟩)]) W fun e W' => (∃ v, e = .returned v) ∧ (J (sols m p) W' ∨ ∃ pre, Jx pre W') := by
    intro l J Jx W hb hJ hY hj
    have hcW := (hb.block C (by omega)).trans HC3.out
    refine callsIn_wide.2 (solutions_any (n - 1) l Bx S B N m (fun k => k < N ∧ k ≠ C) lv p uv (fun k => k = C) W J Jx [] (.slice none 0 0) (sols m p) W (by omega) hm4 HOk.out (fun k hk => by have hk' : k = C := hk; omega) hS hBx (fun W' hrl => (HP.out.below hb).rl hcW (by simp) (by omega) hS (HS.out.below hb) hrl) hJ hY ((hb.block Bx (lt_heap HX.out)).trans HX.out) (HS.out.below hb) (DecR.nil _ _) (Rl.refl _ _ _ _) ?_ hj (Nat.le_trans hN3 hb.size) ?_)
    · exact okD_nil
    · simp [sols, remR]
  have Hseq := Lib.hid hseq
  clear hseq
  refine range_sol (K := fun k => k = C) (N := N) (S := S) (L := sols m p) h1 (gf := 77) (lb := #[.pointer (some ⟨Bx, 0, none⟩)]) rfl (enters_of Try.func77 (by kernel_rfl) rfl)
    Hseq.out hSw rfl (fun pre W => Cel1 W C (.int .i64 pre.length) ∧ Below C w3 W) ?hI ⟨⟨(cell_of_row w3 C _ _ _ _ HC3.out).trans rfl, by simp [World.frozen?, HC3.out]⟩, Below.refl _ _⟩ ?round ?done
  case hI =>
    rintro pre X Y ⟨hc, hB⟩ hmv
    have hb := hmv.belowN (c := C + 1) (by omega) (by omega) (by omega) hc.lt
    exact ⟨hc.same (hb.block C (by omega)), hB.trans (hb.mono (by omega))⟩
  case round =>
    rintro l1 pre k G W r hl1 hr1 hrc ⟨hc, hB⟩ hpre hG hO
    have hle : pre.length + 1 ≤ 4096 := by
      have h5 := hpre.length_le
      have h6 := Hlen.out
      rw [List.length_append, List.length_singleton] at h5
      omega
    have zl : l1 < W.heap.size := lt_heap hr1
    have zC := hc.lt
    clear hO hpre
    gi_wp2
    refine ⟨KeepsOthers.refl _, Kx.refl _ _, fun o' => ?_⟩
    have hne : C ≠ l1 := by omega
    have hcX : Cel1 (W.putObj l1 o') C (.int .i64 pre.length) := hc.same (World.putObj_heap_other hne)
    have hbX : Below C w3 (W.putObj l1 o') := hB.trans ⟨rfl, rfl, rfl, by simp, fun k hk => World.putObj_heap_other (by omega)⟩
    clear hc hB hr1 hrc zl zC
    generalize W.putObj l1 o' = X at *
    have HC := Lib.hid hcX
    have HX2 := Lib.hid hbX
    obtain ⟨s0, s1⟩ := hcX
    have hle' : ((pre.length : Nat) : Int) + 1 ≤ 4096 := by omega
    clear hbX
    gi_wp2
    refine ⟨KeepsOthers.setCell _ _ _, Kx.setC (K := fun k => k = C) X rfl 0 _, HC.out.put, HX2.out.setCell (p := ⟨C, 0, none⟩) (Nat.le_refl _) _⟩
  case done =>
    rintro D W hD ⟨hc, hB⟩ hdef
    obtain ⟨hc0, -⟩ := hc
    gi_wp2
    refine ⟨by simp, .inl ⟨_, _, rfl, run_takeDeferred hdef, ?_⟩⟩
    refine ⟨_, results_tmp rfl _ _ _, rfl, ?_⟩
    exact (HB3.out.trans (hB.mono hw1)).trans (belowK_b (w := w3) (by omega) W D _ _ hD hdef rfl rfl)
end Go.Proofs.Ytaenbajghblgiaa

namespace Go.Proofs.Ytaenbajghblgiaa
open Go.ChangeShapes Go.WideShapes Go.ChangeAt Go.RowKit Go.Shelf

theorem OwnB.turn1 {w : World} {G n : Nat} {v v' : Nat → Bool} {i : Nat} {b : Bool} (h : OwnB w G n n v) (hv : ∀ j, j < n → v' j = if j = i then b else v j) : OwnB (w.setCell ⟨G, i, none⟩ (.bool b)) G n n v' := by
  obtain ⟨cs, hh, h1, h2⟩ := h
  refine ⟨cs.setIfInBounds i (.bool b), by simp [World.setCell, Array.getElem?_modify, hh], by simp [h1], fun j hj => ?_⟩
  rw [Array.getElem?_setIfInBounds, hv j hj]
  by_cases e : j = i
  · subst e
    rw [if_pos rfl, if_pos (by omega), if_pos rfl]
  · rw [if_neg (fun e' => e e'.symm), if_neg e]
    exact h2 j hj

set_option maxRecDepth 100000 in
set_option maxHeartbeats 400000 in
theorem l5Values_any (k : Nat) (w : World) (hk : k < 4096) :
    Calls Try.prog 31 #[.int .i64 k] w fun e w' => ∃ G, e = .returned (.slice (some ⟨G, 0, none⟩) 12 12) ∧ w.heap.size ≤ G ∧ OwnB w' G 12 12 (valN k) ∧ Below w.heap.size w w' := by
  obtain ⟨i0, hi, hz0, hz1, hz2⟩ := info_parts Try.infoBool
  have hmk := fun W => run_make (P := Try.prog) W 29 4 i0 _ Try.underlying29 hi hz0 .i64 .i64 (12 : Int) 12 (by omega) (by omega) (by rw [hz2]; omega) (by omega)
  rw [hz1] at hmk
  clear hi hz0 hz1 hz2
  go_enter Try.func31, Try.ntmps31
  go_wp2
  go_loopw [0, 4] (fun nv i wr => ∃ s : Nat, s ≤ 12 ∧ i = .int .i64 ((s : Int) - 1) ∧ nv = .int .i64 ((k / 2 ^ (12 - s) : Nat)) ∧ OwnB wr w.heap.size 12 12 (fun j => decide (s ≤ j) && valN k j) ∧ Below w.heap.size w wr) (fun _ i _ => (intOf i + 1).toNat)
  case atStart => exact ⟨12, Nat.le_refl _, rfl, by simp, ⟨_, heap_alloc_new _ _, by simp [size_madeCells], fun i hi => by show (madeCells #[.bool false] 12)[i]? = some (.bool (decide (12 ≤ i) && valN k i)); rw [show (decide (12 ≤ i) && valN k i) = false from by rw [decide_eq_false (by omega)]; rfl]; rw [← Array.getElem?_toList, toList_madeCells_one, List.getElem?_replicate, if_pos hi]⟩, bl_alloc (Below.refl _ _) _⟩
  case round =>
    obtain ⟨s, hs, rfl, rfl, hown, hb⟩ := hrel
    clear hmk
    cases s with
    | zero =>
      go_wp2
      go_ret
      exact ⟨_, rfl, Nat.le_refl _, hown.to fun i _ => by simp, hb⟩
    | succ j =>
      rw [show ((j + 1 : Nat) : Int) - 1 = (j : Int) from by omega]
      obtain ⟨q, hq⟩ : ∃ q, k / 2 ^ (12 - (j + 1)) = q := ⟨_, rfl⟩
      rw [hq]
      have hq2 : q ≤ 4096 := by rw [← hq]; exact Nat.le_trans (Nat.div_le_self _ _) (Nat.le_of_lt hk)
      obtain ⟨y1, hy1⟩ := hown.cell (show j < 12 by omega)
      have hf1 := hown.frozen j
      go_wp2
      go_roundw
      case rel =>
        refine ⟨j, by omega, by go_num, ?_, ?_, hb.setCell (Nat.le_refl _) _⟩
        · rw [show 12 - j = (12 - (j + 1)) + 1 from by omega, Nat.pow_succ, ← Nat.div_div_eq_div_mul, hq]
          congr 1
        · refine hown.turn1 fun i hi => ?_
          by_cases e : i = j
          · subst e
            rw [if_pos rfl, decide_eq_true (Nat.le_refl _), Bool.true_and]
            show (k / 2 ^ (11 - i) % 2 == 1) = _
            rw [show 11 - i = 12 - (i + 1) from by omega, hq]
            rcases (show q % 2 = 0 ∨ q % 2 = 1 by omega) with h | h
            · rw [h, show (q : Int) % 2 = 0 from by omega]; rfl
            · rw [h, show (q : Int) % 2 = 1 from by omega]; rfl
          · rw [if_neg e]
            show (decide (j ≤ i) && valN k i) = (decide (j + 1 ≤ i) && valN k i)
            rw [show decide (j ≤ i) = decide (j + 1 ≤ i) from by rw [decide_eq_decide]; omega]
      case measure => simp [intOf]

def cntS (m : Nat) (p : Nat → Con) : Nat := if probB m p = true then (sols m p).length else 0
/-- The solutions below k. -/
def cntTo (m : Nat) (p : Nat → Con) (k : Nat) : Nat := ((List.range k).filter (qS p m)).length
theorem cntTo_succ (m : Nat) (p : Nat → Con) (k : Nat) : cntTo m p (k + 1) = cntTo m p k + (if qS p m k = true then 1 else 0) := by
  unfold cntTo
  rw [List.range_succ, List.filter_append, List.length_append]
  by_cases h : qS p m k = true
  · simp [h]
  · simp [h]
theorem cntTo_le (m : Nat) (p : Nat → Con) (k : Nat) : cntTo m p k ≤ k := by
  unfold cntTo
  exact Nat.le_trans (List.length_filter_le _ _) (by simp)
theorem cntTo_all (m : Nat) (p : Nat → Con) : cntTo m p 4096 = (sols m p).length := by
  unfold cntTo sols
  rw [solL_none]

set_option maxRecDepth 100000 in
set_option maxHeartbeats 800000 in
theorem specCount_any (A : Option Addr) (m cap : Nat) (p : Nat → Con) (w : World) (hm : m ≤ 1048576) (hs : ∀ i, i < m → (p i).n ≤ 1048576) (hr : RdP w w.heap.size A m p) :
    Calls Try.prog 9 #[.slice A m cap] w fun e w' => e = .returned (.int .i64 (cntS m p)) ∧ Below w.heap.size w w' := by
  have Hpr := Lib.hid (specProblem_any A m cap p w hm hs hr)
  cases hv : probB m p with
  | false =>
    have hR : cntS m p = 0 := by unfold cntS; rw [hv]; rfl
    rw [hv] at Hpr
    rw [hR]
    clear hv hr hs hR
    go_enter Try.func9, Try.ntmps9
    go_wp2_with fail
    refine Hpr.out.mono ?_
    rintro e w1 ⟨rfl, hb⟩
    go_wp2
    go_ret
    exact ⟨rfl, hb⟩
  | true =>
    have HR := Lib.hid (show cntS m p = cntTo m p 4096 from by unfold cntS; rw [if_pos hv, cntTo_all])
    rw [hv] at Hpr
    have Hval := Lib.hid (prob_all hv)
    have HN := Lib.hid hs
    have Hr := Lib.hid hr
    clear hv hr hs
    go_enter Try.func9, Try.ntmps9
    go_wp2_with fail
    refine Hpr.out.mono ?_
    rintro e w1 ⟨rfl, hb⟩
    have HB1 := Lib.hid hb
    clear hb Hpr
    go_wp2
    go_loopw [3, 4] (fun c i wr => ∃ j : Nat, j ≤ 4096 ∧ i = .int .i64 j ∧ c = .int .i64 (cntTo m p j) ∧ Below w.heap.size w wr) (fun _ i _ => 4096 - (intOf i).toNat)
    case atStart => exact ⟨0, by omega, rfl, rfl, HB1.out⟩
    case round =>
      obtain ⟨j, hj, rfl, rfl, hb⟩ := hrel
      by_cases hlt : j < 4096
      · have HBr := Lib.hid hb
        clear hb
        have hle := cntTo_le m p j
        have hji : (j : Int) < 4096 := by omega
        have hci : (cntTo m p j : Int) ≤ 4096 := by omega
        have Hsu := Lib.hid (cntTo_succ m p j)
        go_wp2_with fail
        refine (l5Values_any j _ hlt).mono ?_
        rintro e w2 ⟨G, rfl, hG, hO, hb⟩
        have HB2 := Lib.hid (bl_trans HBr.out hb)
        have HO := Lib.hid hO
        clear hb hG hO HBr
        go_wp2_with fail
        refine (l3All_any _ _ _ _ _ p (valN j) _ hm HN.out (Hr.out.later HB2.out) HO.out.rdAt Hval.out).mono ?_
        rintro e w3 ⟨rfl, hb⟩
        have HB3 := Lib.hid (bl_trans HB2.out hb)
        clear hb HB2 HO
        cases hq : allE p (valN j) m with
        | false =>
          have Hc := Lib.hid (show cntTo m p (j + 1) = cntTo m p j from by rw [Hsu.out, show qS p m j = false from hq]; rfl)
          clear hq
          go_wp2
          go_roundw
          case rel => exact ⟨j + 1, by omega, by go_num, by rw [Hc.out], HB3.out⟩
          case measure => simp [intOf]; omega
        | true =>
          have Hc := Lib.hid (show cntTo m p (j + 1) = cntTo m p j + 1 from by rw [Hsu.out, show qS p m j = true from hq]; rfl)
          clear hq
          go_wp2
          go_roundw
          case rel => exact ⟨j + 1, by omega, by go_num, by rw [Hc.out]; go_num, HB3.out⟩
          case measure => simp [intOf]; omega
      · have e : j = 4096 := by omega
        subst e
        go_wp2
        go_ret
        exact ⟨by rw [HR.out]; rfl, hb⟩

set_option maxRecDepth 100000 in
set_option maxHeartbeats 800000 in
theorem implCount_any (A : Option Addr) (m cap : Nat) (p : Nat → Con) (w : World) (hm : m ≤ 1048576) (hs : ∀ i, i < m → (p i).n ≤ 1048576) (hr : RdP w w.heap.size A m p) :
    Calls Try.prog 11 #[.slice A m cap] w fun e w' => e = .returned (.int .i64 (cntS m p)) ∧ Below w.heap.size w w' := by
  cases hv : probB m p with
  | false =>
    have Hpr := Lib.hid (implProblem_any A m cap p w hm hs hr)
    have hR : cntS m p = 0 := by unfold cntS; rw [hv]; rfl
    rw [hv] at Hpr
    rw [hR]
    clear hv hr hs hR
    go_enter Try.func11, Try.ntmps11
    go_wp2_with fail
    refine Hpr.out.mono ?_
    rintro e w1 ⟨rfl, hb⟩
    go_wp2
    go_ret
    exact ⟨rfl, hb⟩
  | true =>
    have hR : cntS m p = (sols m p).length := by unfold cntS; rw [if_pos hv]
    rw [hR]
    exact callsIn_wide.1 (countLoop_in 3 (by omega) A m cap p w hm hs hv hr)
end Go.Proofs.Ytaenbajghblgiaa

namespace Go.Proofs.Ytaenbajghblgiaa
open Go.ChangeShapes Go.WideShapes Go.ChangeAt Go.RowKit Go.Shelf

theorem decR_grown {w W W' : World} {dv : Value} {D : List Int} (h : DecR W w.heap.size dv D) (hb : Below w.heap.size w W) (hg : W.grownBy W' dv.ownBlock) : Below w.heap.size w W' :=
  ⟨hg.os.trans hb.os, hg.tape.trans hb.tape, hg.output.trans hb.output, Nat.le_trans hb.size hg.size, fun k hk => by
    refine (hg.block k (Nat.lt_of_lt_of_le hk hb.size) fun e => ?_).trans (hb.block k hk)
    have h1 := (h.lt k e.symm).1
    omega⟩

set_option maxRecDepth 100000 in
set_option maxHeartbeats 1600000 in
theorem trueLitsV_any (A : Option Addr) (cap : Nat) (v : Nat → Bool) (w : World) (hr : RdB w w.heap.size A 12 v) :
    Calls Try.prog 55 #[.slice A 12 cap] w fun e w' => ∃ dv, e = .returned dv ∧ DecR w' w.heap.size dv (litsV v 12) ∧ Below w.heap.size w w' := by
  go_enter Try.func55, Try.ntmps55
  go_wp2
  go_loopw [3, 9] (fun lv i wr => ∃ k : Nat, k ≤ 12 ∧ i = .int .i64 k ∧ DecR wr w.heap.size lv (litsV v k) ∧ Below w.heap.size w wr) (fun _ i _ => 12 - (intOf i).toNat)
  case atStart => exact ⟨0, by omega, rfl, DecR.nil _ _, Below.refl _ _⟩
  case round =>
    obtain ⟨k, hk, rfl, hD, hb⟩ := hrel
    have HD := Lib.hid hD
    have HB := Lib.hid hb
    by_cases hlt : k < 12
    · obtain ⟨b, off, rfl, hbl, hc⟩ := (hr.below hb) (by omega)
      have hc1 := hc k hlt
      clear hc hr hD hb
      cases hv : v k with
      | true =>
        rw [hv] at hc1
        have HZ := Lib.hid (show litV v k = (k : Int) + 1 from by unfold litV; rw [hv]; exact if_pos rfl)
        have HAl := Lib.hid (bl_alloc (Below.refl wr.heap.size wr) (.cells #[.int .i64 ((k : Int) + 1)] 84))
        clear hv
        go_wp2_with (at_builtin; refine wpList_plain (by rfl) fun K' hK' => ?_; refine wp_dec1 _ _ (by rfl) (HD.out.below HAl.out) (Nat.le_trans HB.out.size (by simp)) (by rfl) (by rfl) (heap_alloc_new _ _) (by rw [litsV_len]; omega) ?_; intro g2 cap2 w2 hd2 hg2; have HD2 := Lib.hid hd2; have HB2 := Lib.hid (decR_grown (HD.out.below HAl.out) (HB.out.trans (HAl.out.mono HB.out.size)) hg2); clear hd2 hg2; refine hK' _ _ ?_; clear hK' K' hc1 hbl)
        go_roundw
        case rel => exact ⟨k + 1, by omega, by go_num, by rw [litsV_succ, HZ.out]; exact HD2.out, HB2.out⟩
        case measure => simp [intOf]; omega
      | false =>
        rw [hv] at hc1
        have HZ := Lib.hid (show litV v k = -((k : Int) + 1) from by unfold litV; rw [hv]; exact if_neg Bool.false_ne_true)
        have HAl := Lib.hid (bl_alloc (Below.refl wr.heap.size wr) (.cells #[.int .i64 (-((k : Int) + 1))] 84))
        clear hv
        go_wp2_with (at_builtin; refine wpList_plain (by rfl) fun K' hK' => ?_; refine wp_dec1 _ _ (by rfl) (HD.out.below HAl.out) (Nat.le_trans HB.out.size (by simp)) (by rfl) (by rfl) (heap_alloc_new _ _) (by rw [litsV_len]; omega) ?_; intro g2 cap2 w2 hd2 hg2; have HD2 := Lib.hid hd2; have HB2 := Lib.hid (decR_grown (HD.out.below HAl.out) (HB.out.trans (HAl.out.mono HB.out.size)) hg2); clear hd2 hg2; refine hK' _ _ ?_; clear hK' K' hc1 hbl)
        go_roundw
        case rel => exact ⟨k + 1, by omega, by go_num, by rw [litsV_succ, HZ.out]; exact HD2.out, HB2.out⟩
        case measure => simp [intOf]; omega
    · have e : k = 12 := by omega
      subst e
      go_wp2
      go_ret
      exact ⟨_, rfl, hD, hb⟩
end Go.Proofs.Ytaenbajghblgiaa

namespace Go.Proofs.Ytaenbajghblgiaa
open Go.ChangeShapes Go.WideShapes Go.ChangeAt Go.RowKit Go.Shelf

variable {n : Nat} {P : Program}
set_option maxHeartbeats 1000000 in
theorem range_first {g : Operand} {ps : Array Tmp} {assign body : Code} {Q : Exit → Act → World → Prop} {a : Act} {w : World} {N S : Nat} {L : List Nat}
    (h1 : 1 ≤ n) {gf : Nat} {lb : Array Value} (hg : a.eval g = .func (.func gf) #[] lb) (eg : ∀ args w, (callFunc gf args).run P w = .ok (.enter gf args) w)
    (hseq : ∀ (l : Nat) (J Jx : List Nat → World → Prop) (W : World), Below w.heap.size w W → (∀ pre A B, J pre A → Ms (isOwn N) S A B → J pre B) →
      (∀ pre k G W1, J pre W1 → pre ++ [k] <+: L → N ≤ G → OwnB W1 G 12 12 (valN k) → YieldAt Fence.wide (n - 1 - 1) P l #[.slice (some ⟨G, 0, none⟩) 12 12] W1 fun e W' => (e = .returned (.bool true) ∧ J (pre ++ [k]) W' ∧ Kx (fun _ => False) W1 W') ∨ (e = .returned (.bool false) ∧ Jx (pre ++ [k]) W')) →
      J [] W → CallsIn Fence.wide (n - 1) P gf (#[.func (.yield l) #[] #[]] ++ lb) W fun e W' => (∃ v, e = .returned v) ∧ (J L W' ∨ ∃ pre, Jx pre W'))
    (hSw : S < w.heap.size) (hps : ps.size = 1)
    (I : World → Prop) (X : Nat → World → Prop) (hI : ∀ A B, I A → Ms (isNew w.heap.size N) S A B → I B) (hX : ∀ k A l r o', X k A → w.heap.size ≤ l → A.heap[l]? = some r → r.isCells = false → X k (A.putObj l o')) (h0 : I w)
    (hround : ∀ (l k G : Nat) (W : World) (r : Obj), w.heap.size ≤ l → W.heap[l]? = some r → r.isCells = false → I W → [k] <+: L → N ≤ G → OwnB W G 12 12 (valN k) →
      assign.wpIn (Fence.wide.inRound l) (n - 1 - 1) P (Exit.then (fun a' W' => KeepsOthers W W' ∧ ∀ o', body.wpIn (Fence.wide.inRound l) (n - 1 - 1) P (fun e _ W2 => e = .ret ∧ KeepsOthers (W'.putObj l o') W2 ∧ X k W2) a' (W'.putObj l o')) (fun _ _ _ => False))
        { tmps := (ps.zip (#[.slice (some ⟨G, 0, none⟩) 12 12] : Array Value)).foldl (fun t (p, v) => t.setIfInBounds p v) a.tmps, defers := [] } W)
    (hnone : ∀ (D : Nat) (W : World), w.heap.size ≤ D → L = [] → I W → W.heap[D]? = some (.deferred (some [])) → Q .normal { a with defers := { target := .collected D, args := #[] } :: a.defers } W)
    (hsome : ∀ (D k : Nat) (W : World), w.heap.size ≤ D → [k] <+: L → X k W → W.heap[D]? = some (.deferred (some [])) → Q .ret { a with defers := { target := .collected D, args := #[] } :: a.defers } W) :
    (Code.rangeFunc g ps assign body).wpIn Fence.wide n P Q a w := by
  refine wpIn_rangeFunc fun fn hfn => ?_
  rw [show Fence.wide.round = none from rfl]
  obtain ⟨rec, hrec⟩ : ∃ rec : LoopState → Option Code → Loop, rec = fun st pe => { state := st, pending := pe, fn, tmps := a.tmps, params := ps, assign, body, defers := w.heap.size } := ⟨_, rfl⟩
  obtain ⟨W1, hW1⟩ : ∃ W1, (w.alloc (.deferred (some []))).alloc (.loop (rec .ready none)) = W1 := ⟨_, rfl⟩
  have hL1 : W1.heap[w.heap.size + 1]? = some (.loop (rec .ready none)) := by
    rw [← hW1]
    have := World.alloc_heap_new (w.alloc (.deferred (some []))) (.loop (rec .ready none))
    rwa [World.size_alloc] at this
  have hD1 : W1.heap[w.heap.size]? = some (.deferred (some [])) := by
    rw [← hW1]
    exact (Below.heap_alloc _ _ _ (by simp)).trans (World.alloc_heap_new w _)
  have hbW : Below w.heap.size w W1 := by
    rw [← hW1]
    exact bl_alloc (bl_alloc (Below.refl _ _) _) _
  have hI1 : I W1 := hI _ _ h0 (ms_below hbW)
  refine ⟨w.heap.size + 1, [{ target := .collected w.heap.size, args := #[] }], W1, { target := .fn (.func gf) lb, args := #[.func (.yield (w.heap.size + 1)) #[] #[]] }, W1, gf,
    #[.func (.yield (w.heap.size + 1)) #[] #[]] ++ lb, W1, ?_, ?_, ?_, ?_, fun _ => h1, ?_⟩
  · rw [← hW1, hrec]
    exact run_enterLoop_outer _ _ _ _ _
  · simp only [resolve, hg]
    simp [go_sem]
  · intro f' hf'
    simp [Target.leads] at hf'
    subst hf'
    exact trivial
  · simp [invoke, go_sem, eg]
  · refine (hseq (w.heap.size + 1) (fun pre W => pre = [] ∧ I W ∧ W.heap[w.heap.size + 1]? = some (.loop (rec .ready none)) ∧ W.heap[w.heap.size]? = some (.deferred (some []))) (fun pre W => ∃ k, pre = [k] ∧ [k] <+: L ∧ X k W ∧ W.heap[w.heap.size + 1]? = some (.loop (rec .done (some .ret))) ∧ W.heap[w.heap.size]? = some (.deferred (some []))) W1 hbW ?_ ?_ ⟨rfl, hI1, hL1, hD1⟩).mono ?_
    · rintro pre A B ⟨rfl, hi, hl, hd⟩ hm
      exact ⟨rfl, hI _ _ hi (hm.mono fun _ _ h => .inl h), hm.block _ _ hl (by omega) (by rintro (⟨_, _, _, h⟩ | ⟨_, _, _, h⟩) <;> cases h), hm.block _ _ hd (by omega) (by rintro (⟨_, _, _, h⟩ | ⟨_, _, _, h⟩) <;> cases h)⟩
    · rintro pre k G W ⟨rfl, hi, hl, hd⟩ hpre hG hO
      have k1 : w.heap.size + 1 < W.heap.size := lt_heap hl
      have hy := run_yield (P := P) (args := #[.slice (some ⟨G, 0, none⟩) 12 12]) hl (by rw [hrec]; exact hps.symm)
      rw [hrec] at hy
      refine ⟨fn, _, assign, body, hy, roundIn_of_wpIn hfn (wpIn_mono (hround _ k G W _ (by omega) hl rfl hi hpre hG hO) ?_)⟩
      rintro e a' W' hp
      cases e with
      | normal =>
        obtain ⟨hk1, hbody⟩ := hp
        have hl1 := hk1.same _ _ hl rfl
        have hd1 := hk1.same _ _ hd rfl
        have k2 : w.heap.size + 1 < W'.heap.size := lt_heap hl1
        refine ⟨_, run_beginRound hl1 (by rw [hrec]), ?_⟩
        have hl2 : (W'.putObj (w.heap.size + 1) (.loop { rec .ready none with state := .busy })).heap[w.heap.size + 1]? = some (.loop { rec .ready none with state := .busy }) := World.putObj_heap_same k2
        have hd2 : (W'.putObj (w.heap.size + 1) (.loop { rec .ready none with state := .busy })).heap[w.heap.size]? = some (.deferred (some [])) := (World.putObj_heap_other (by omega)).trans hd1
        refine wpIn_mono (hbody _) ?_
        rintro e a2 W2 ⟨rfl, hk3, hi3⟩
        have hl3 := hk3.same _ _ hl2 rfl
        have hd3 := hk3.same _ _ hd2 rfl
        have k3 : w.heap.size + 1 < W2.heap.size := lt_heap hl3
        have hr := run_endRound (P := P) (some .ret) hl3
        rw [hrec] at hr
        refine ⟨_, _, hr, .inr ⟨rfl, k, rfl, hpre, ?_, ?_, (World.putObj_heap_other (by omega)).trans hd3⟩⟩
        · exact hX _ _ _ _ _ hi3 (by omega) hl3 rfl
        · rw [hrec]
          exact World.putObj_heap_same k3
      | ret => exact hp.elim
      | exit id => exact hp.elim
      | goto t => exact hp.elim
      | panic ch => exact hp.elim
      | outgrown => exact hp.elim
    · rintro e W2 ⟨⟨v, rfl⟩, ⟨e0, hi, hl, hd⟩ | ⟨_, k, _, hk, hx, hl, hd⟩⟩
      · have hr := run_endLoop (P := P) hl (by rw [hrec]; simp)
        rw [hrec] at hr
        exact ⟨none, _, hr, hnone _ _ (Nat.le_refl _) e0 (hI _ _ hi (ms_putObj (by omega) _)) ((World.putObj_heap_other (by omega)).trans hd)⟩
      · have hr := run_endLoop (P := P) hl (by rw [hrec]; simp)
        rw [hrec] at hr
        exact ⟨some .ret, _, hr, wpIn_ret (hsome _ _ _ (Nat.le_refl _) hk (hX _ _ _ _ _ hx (by omega) hl rfl) ((World.putObj_heap_other (by omega)).trans hd))⟩
end Go.Proofs.Ytaenbajghblgiaa

namespace Go.Proofs.Ytaenbajghblgiaa
open Go.ChangeShapes Go.WideShapes Go.ChangeAt Go.RowKit Go.Shelf

attribute [local go_sem] Oper.semAt_some

theorem not_own {N k : Nat} {cs : Array Value} {T : TypeId} {fr : Nat × Nat} (h1 : T ≠ 84) (h2 : T ≠ 121) : ¬ isOwn N k (.cells cs T fr) := by
  rintro (⟨_, _, _, e⟩ | ⟨_, _, _, e⟩) <;> injection e with _ e _
  · exact h1 e
  · exact h2 e
theorem cel1_of {W : World} {j : Nat} {v : Value} {T : TypeId} (h : W.heap[j]? = some (.cells #[v] T (0, 0))) : Cel1 W j v :=
  ⟨(cell_of_row W j _ _ _ _ h).trans rfl, by simp [World.frozen?, h]⟩
theorem Cel1.putO {W : World} {j l : Nat} {v : Value} {r : Obj} (h : Cel1 W j v) (hr : W.heap[l]? = some r) (hc : r.isCells = false) (o' : Obj) : Cel1 (W.putObj l o') j v := by
  refine h.same (World.putObj_heap_other fun e => ?_)
  obtain ⟨cs, T, fr, h1, _⟩ := cell_block h.1
  rw [e, hr] at h1
  cases h1
  cases hc
theorem OwnB.putO {W : World} {G l n k : Nat} {v : Nat → Bool} {r : Obj} (h : OwnB W G n k v) (hr : W.heap[l]? = some r) (hc : r.isCells = false) (o' : Obj) : OwnB (W.putObj l o') G n k v := by
  obtain ⟨cs, h1, h2⟩ := h
  refine ⟨cs, (World.putObj_heap_other fun e => ?_).trans h1, h2⟩
  rw [e, hr] at h1
  cases h1
  cases hc
theorem OwnB.setO {W : World} {G n k : Nat} {v : Nat → Bool} (h : OwnB W G n k v) {j : Nat} (hj : G ≠ j) (o : Nat) (u : Value) : OwnB (W.setCell ⟨j, o, none⟩ u) G n k v := by
  obtain ⟨cs, h1, h2⟩ := h
  exact ⟨cs, (Below.heap_setCell W ⟨j, o, none⟩ u G hj).trans h1, h2⟩

set_option maxRecDepth 100000 in
set_option maxHeartbeats 3200000 in
theorem firstOf_in (n : Nat) (hn : 3 ≤ n) (Bx S N c : Nat) (L : List Nat) (w : World) (hSw : S < w.heap.size) (hcN : c ≤ N) (hcS : c ≤ S)
    (hseq : ∀ (l : Nat) (J Jx : List Nat → World → Prop) (W : World), Below w.heap.size w W → (∀ pre A B, J pre A → Ms (isOwn N) S A B → J pre B) →
      (∀ pre k G W1, J pre W1 → pre ++ [k] <+: L → N ≤ G → OwnB W1 G 12 12 (valN k) → YieldAt Fence.wide (n - 1 - 1) Try.prog l #[.slice (some ⟨G, 0, none⟩) 12 12] W1 fun e W' => (e = .returned (.bool true) ∧ J (pre ++ [k]) W' ∧ Kx (fun _ => False) W1 W') ∨ (e = .returned (.bool false) ∧ Jx (pre ++ [k]) W')) →
      J [] W → CallsIn Fence.wide (n - 1) Try.prog 77 (#[.func (.yield l) #[] #[]] ++ #[.pointer (some ⟨Bx, 0, none⟩)]) W fun e W' => (∃ v, e = .returned v) ∧ (J L W' ∨ ∃ pre, Jx pre W')) :
    CallsIn Fence.wide n Try.prog 36 #[.func (.func 77) #[] #[.pointer (some ⟨Bx, 0, none⟩)]] w fun e W' => ((L = [] ∧ e = .returned (.tuple #[.slice none 0 0, .bool false])) ∨ ∃ k G, [k] <+: L ∧ e = .returned (.tuple #[.slice (some ⟨G, 0, none⟩) 12 12, .bool true]) ∧ N ≤ G ∧ OwnB W' G 12 12 (valN k)) ∧ Below c w W' := by
  have h1 : 1 ≤ n := by omega
  have Hseq := Lib.hid hseq
  clear hseq
  refine callsIn_of_wp_marks Try.func36 rfl trivial ?_ rfl
  simp only [Try.ntmps36, List.size_toArray, List.length_cons, List.length_nil, Nat.reduceAdd, Nat.reduceSub, Array.replicate_succ, Array.replicate_zero, List.push_toArray, List.append_toArray, List.nil_append, List.cons_append]
  gi_wp2_with fail
  have e1 := heap_alloc_new w (.cells #[.slice none 0 0] 29)
  have e2 := heap_alloc_new (w.alloc (.cells #[.slice none 0 0] 29)) (.cells #[.bool false] 4)
  have e3 := Below.heap_alloc (w.alloc (.cells #[.slice none 0 0] 29)) (.cells #[.bool false] 4) w.heap.size (by simp)
  rw [World.size_alloc] at e2
  have HB := Lib.hid (bl_alloc (bl_alloc (Below.refl w.heap.size w) (.cells #[.slice none 0 0] 29)) (.cells #[.bool false] 4))
  have hz : ((w.alloc (.cells #[.slice none 0 0] 29)).alloc (.cells #[.bool false] 4)).heap.size = w.heap.size + 2 := by simp
  have HR1 := Lib.hid (e3.trans e1)
  have HR2 := Lib.hid e2
  clear e1 e2 e3
  generalize (w.alloc (.cells #[.slice none 0 0] 29)).alloc (.cells #[.bool false] 4) = w2 at *
  obtain ⟨R, hR⟩ : ∃ R, w.heap.size = R := ⟨_, rfl⟩
  have hcR : c ≤ R := by omega
  have HBc := Lib.hid (HB.out.mono (Nat.le_trans hcS (Nat.le_of_lt hSw)))
  rw [hR] at hz HR1 HR2 hSw ⊢
  have Hsq := Lib.hid (fun l J Jx W (hb : Below w2.heap.size w2 W) => Hseq.out l J Jx W (bl_trans HB.out hb))
  clear Hseq
  refine range_first (N := N) (S := S) (L := L) h1 (gf := 77) (lb := #[.pointer (some ⟨Bx, 0, none⟩)]) rfl (enters_of Try.func77 (by kernel_rfl) rfl)
    Hsq.out (by omega) rfl (fun W => W.heap[R]? = some (.cells #[.slice none 0 0] 29 (0, 0)) ∧ W.heap[R + 1]? = some (.cells #[.bool false] 4 (0, 0)) ∧ Below c w W)
    (fun k W => ∃ G, Cel1 W R (.slice (some ⟨G, 0, none⟩) 12 12) ∧ Cel1 W (R + 1) (.bool true) ∧ N ≤ G ∧ OwnB W G 12 12 (valN k) ∧ Below c w W) ?hI ?hX ⟨HR1.out, HR2.out, HBc.out⟩ ?round ?none ?some
  case hI =>
    rintro X Y ⟨ha, hb, hB⟩ hm
    refine ⟨hm.block R _ ha (by omega) ?_, hm.block (R + 1) _ hb (by omega) ?_, hB.trans (hm.belowN hcN (by omega) hcS (by have := hB.size; omega))⟩
    · rintro (h | h)
      · exact not_own (by decide) (by decide) h
      · omega
    · rintro (h | h)
      · exact not_own (by decide) (by decide) h
      · omega
  case hX =>
    rintro k X l r o' ⟨G, ha, hb, hG, hO, hB⟩ hl hr hc
    exact ⟨G, ha.putO hr hc o', hb.putO hr hc o', hG, hO.putO hr hc o', hB.trans ⟨rfl, rfl, rfl, by simp, fun k hk => World.putObj_heap_other (by omega)⟩⟩
  case round =>
    rintro l1 k G W r hl1 hr1 hrc ⟨ha, hb, hB⟩ hpre hG hO
    clear hpre
    have hc1 := cel1_of ha
    have hc2 := cel1_of hb
    have hGR : G ≠ R := fun e => by
      obtain ⟨cs, h3, _⟩ := hO
      rw [e, ha] at h3
      injection h3 with h3
      injection h3 with _ h4 _
      exact absurd h4 (by decide)
    have hGR1 : G ≠ R + 1 := fun e => by
      obtain ⟨cs, h3, h4, _⟩ := hO
      rw [e, hb] at h3
      cases h3
      exact absurd h4 (by decide)
    clear ha hb
    gi_wp2
    refine ⟨KeepsOthers.refl _, fun o' => ?_⟩
    replace hc1 := hc1.putO hr1 hrc o'
    replace hc2 := hc2.putO hr1 hrc o'
    replace hO := hO.putO hr1 hrc o'
    have hbX : Below c w (W.putObj l1 o') := hB.trans ⟨rfl, rfl, rfl, by simp, fun k hk => World.putObj_heap_other (by omega)⟩
    clear hB hr1 hrc
    generalize W.putObj l1 o' = X at *
    have HC1 := Lib.hid hc1
    have HC2 := Lib.hid hc2
    have HO := Lib.hid hO
    have HX2 := Lib.hid hbX
    obtain ⟨s0, s1⟩ := hc1
    obtain ⟨t0, t1⟩ := hc2
    clear hbX hO
    gi_wp2
    refine ⟨(KeepsOthers.setCell _ _ _).trans (KeepsOthers.setCell _ _ _), G, (HC1.out.put).same (Below.heap_setCell _ ⟨R + 1, 0, none⟩ _ R (by show R ≠ R + 1; omega)), (HC2.out.same (Below.heap_setCell _ ⟨R, 0, none⟩ _ (R + 1) (by show R + 1 ≠ R; omega))).put, hG, (HO.out.setO hGR 0 _).setO hGR1 0 _, (HX2.out.setCell (p := ⟨R, 0, none⟩) hcR _).setCell (p := ⟨R + 1, 0, none⟩) (Nat.le_succ_of_le hcR) _⟩
  case none =>
    rintro D W hD hL ⟨ha, hb, hB⟩ hdef
    obtain ⟨s0, s1⟩ := cel1_of ha
    obtain ⟨t0, t1⟩ := cel1_of hb
    clear ha hb
    gi_wp2
    have hDR : D ≠ R := by omega
    have hDR1 : D ≠ R + 1 := by omega
    have hd2 := ((Below.heap_setCell (W.setCell ⟨R, 0, none⟩ (.slice none 0 0)) ⟨R + 1, 0, none⟩ (.bool false) D hDR1).trans (Below.heap_setCell W ⟨R, 0, none⟩ (.slice none 0 0) D hDR)).trans hdef
    refine ⟨by simp, .inl ⟨_, _, rfl, run_takeDeferred hd2, ?_⟩⟩
    have c1 : Cel1 W R (.slice none 0 0) := ⟨s0, s1⟩
    have c2 : Cel1 W (R + 1) (.bool false) := ⟨t0, t1⟩
    have hB2 : Below c w ((W.setCell ⟨R, 0, none⟩ (.slice none 0 0)).setCell ⟨R + 1, 0, none⟩ (.bool false)) := (hB.setCell (p := ⟨R, 0, none⟩) hcR _).setCell (p := ⟨R + 1, 0, none⟩) (Nat.le_succ_of_le hcR) _
    have d1 := ((c1.put (u := .slice none 0 0)).same (Below.heap_setCell _ ⟨R + 1, 0, none⟩ (.bool false) R (by show R ≠ R + 1; omega))).putO hd2 rfl (.deferred none)
    have d2 := ((c2.same (Below.heap_setCell _ ⟨R, 0, none⟩ (.slice none 0 0) (R + 1) (by show R + 1 ≠ R; omega))).put (u := .bool false)).putO hd2 rfl (.deferred none)
    have hB3 : Below c w (((W.setCell ⟨R, 0, none⟩ (.slice none 0 0)).setCell ⟨R + 1, 0, none⟩ (.bool false)).putObj D (.deferred none)) := hB2.trans ⟨rfl, rfl, rfl, by simp, fun k hk => World.putObj_heap_other (by omega)⟩
    clear hd2 hB2 c1 c2 hB s0 s1 t0 t1 hdef
    generalize (((W.setCell ⟨R, 0, none⟩ (.slice none 0 0)).setCell ⟨R + 1, 0, none⟩ (.bool false)).putObj D (.deferred none)) = Z at *
    obtain ⟨s0, s1⟩ := d1
    obtain ⟨t0, t1⟩ := d2
    refine ⟨.tuple #[.slice none 0 0, .bool false], ?_, .inl ⟨hL, rfl⟩, hB3⟩
    simp [results, Try.results36, go_sem, s0, t0]
  case some =>
    rintro D k W hD hpre ⟨G, ⟨s0, s1⟩, ⟨t0, t1⟩, hG, hO, hB⟩ hdef
    gi_wp2
    refine ⟨by simp, .inl ⟨_, _, rfl, run_takeDeferred hdef, ?_⟩⟩
    have d1 := (show Cel1 W R _ from ⟨s0, s1⟩).putO hdef rfl (.deferred none)
    have d2 := (show Cel1 W (R + 1) _ from ⟨t0, t1⟩).putO hdef rfl (.deferred none)
    have hO2 := hO.putO hdef rfl (.deferred none)
    have hB3 : Below c w (W.putObj D (.deferred none)) := hB.trans ⟨rfl, rfl, rfl, by simp, fun k hk => World.putObj_heap_other (by omega)⟩
    clear hO hB s0 s1 t0 t1 hdef
    generalize W.putObj D (.deferred none) = Z at *
    obtain ⟨s0, s1⟩ := d1
    obtain ⟨t0, t1⟩ := d2
    refine ⟨.tuple #[.slice (some ⟨G, 0, none⟩) 12 12, .bool true], ?_, .inr ⟨k, G, hpre, rfl, hG, hO2⟩, hB3⟩
    simp [results, Try.results36, go_sem, s0, t0]
end Go.Proofs.Ytaenbajghblgiaa

namespace Go.Proofs.Ytaenbajghblgiaa
open Go.ChangeShapes Go.WideShapes Go.ChangeAt Go.RowKit Go.Shelf

set_option maxRecDepth 100000 in
set_option maxHeartbeats 800000 in
/-- The iterator over the solutions that are not before some values. -/
theorem solFromV_any (A : Option Addr) (m cap : Nat) (p : Nat → Con) (Av : Option Addr) (capv : Nat) (v : Nat → Bool) (w : World) (hm : m ≤ 1400) (hr : RdP w w.heap.size A m p) (hok : ∀ i, i < m → okC (p i) ∧ (p i).n ≤ 1048576) (hrv : RdB w w.heap.size Av 12 v) :
    Calls Try.prog 33 #[.slice A m cap, .slice Av 12 capv] w fun e w' => ∃ B S Bx lv uv dv, e = .returned (.func (.func 77) #[] #[.pointer (some ⟨Bx, 0, none⟩)]) ∧ Pg w' (fun k => k < w.heap.size) B lv m m p (fun i => slkC (p i) z0) (usP p m) uv ∧ Below w.heap.size w w' ∧ w.heap.size ≤ S ∧ w.heap.size ≤ Bx ∧ BoxS w' S B dv ∧ DecR w' w.heap.size dv (litsV v 12) ∧ w'.heap[Bx]? = some (.cells #[.pointer (some ⟨S, 0, none⟩)] 90 (0, 0)) := by
  have HR := Lib.hid hr
  have HO := Lib.hid hok
  have HV := Lib.hid hrv
  clear hr hok hrv
  go_enter Try.func33, Try.ntmps33
  go_wp2_with fail
  refine (newPg_any A m cap p _ hm HR.out HO.out).mono ?_
  rintro e w1 ⟨B, lv, uv, rfl, hpg, hb⟩
  have HP := Lib.hid hpg
  have HB := Lib.hid hb
  clear hpg hb
  go_wp2_with fail
  refine (trueLitsV_any _ _ v _ (HV.out.later HB.out)).mono ?_
  rintro e w2 ⟨dv, rfl, hdec, hb⟩
  have HD := Lib.hid (World.ownsRow.mono hdec HB.out.size)
  clear hdec
  obtain ⟨gv, cg, hdv⟩ : ∃ g cg, dv = .slice (some ⟨g, 0, none⟩) 12 cg := by
    rcases DecR.cases_ HD.out with ⟨_, h⟩ | ⟨g, cap, _, e, _⟩
    · have h2 := litsV_len v 12
      rw [h] at h2
      cases h2
    · exact ⟨g, cap, by rw [e, litsV_len]⟩
  subst hdv
  have HP2 := Lib.hid (HP.out.below hb)
  have HB2 := Lib.hid (bl_trans HB.out hb)
  clear hb HP HB
  go_wp2
  go_ret
  have hz := HB2.out.size
  refine ⟨B, w2.heap.size, w2.heap.size + 1, lv, uv, .slice (some ⟨gv, 0, none⟩) 12 cg, rfl, (HP2.out.below (bl_alloc (Below.refl _ _) _)).below (bl_alloc (Below.refl _ _) _), bl_trans HB2.out (bl_alloc (bl_alloc (Below.refl _ _) _) _), hz, by omega, ?_, DecR.below (DecR.below HD.out (bl_alloc (Below.refl _ _) _)) (bl_alloc (Below.refl _ _) _), ?_⟩
  · exact (Below.heap_alloc _ _ _ (by simp)).trans (heap_alloc_new _ _)
  · have h9 := heap_alloc_new (w2.alloc (.cells #[.pointer (some ⟨B, 0, none⟩), .slice (some ⟨gv, 0, none⟩) 12 cg, .bool true, .pointer none] 95)) (.cells #[.pointer (some ⟨w2.heap.size, 0, none⟩)] 90)
    rw [World.size_alloc] at h9
    exact h9
end Go.Proofs.Ytaenbajghblgiaa

namespace Go.Proofs.Ytaenbajghblgiaa
open Go.ChangeShapes Go.WideShapes Go.ChangeAt Go.RowKit Go.Shelf

section
variable {N S B m s : Nat} {lv : Value} {p : Nat → Con} {sl : Nat → Int} {us : Nat → List (Nat × Int)} {uv : Nat → Value} {w w' : World}
/-- A propagator all of whose blocks are at N or past it stays while a search goes on. -/
theorem Pg.rl0 (h : Pg w (fun k => k < N) B lv m s p sl us uv) (hS : N ≤ S) {u : Value} (hbS : BoxS w S B u) (hr : Rl (fun _ => False) N S w w') :
    Pg w' (fun k => k < N) B lv m s p sl us uv := by
  have hNB : N ≤ B := Nat.le_of_not_lt h.f1
  have hNw := h.f0
  have hty : ∀ k x (t : TypeId) f, w.heap[k]? = some (.cells x t f) → N ≤ k → t ≠ 84 → t ≠ 121 → t ≠ 95 → w'.heap[k]? = some (.cells x t f) := fun k x t f hk hNk h2 h3 h4 => by
    refine hr.block k _ hk rfl (fun e => ?_) (fun e => ?_) ?_
    · exact e
    · subst e
      have h5 : w.heap[k]? = _ := hbS
      rw [hk] at h5
      injection h5 with h5
      injection h5 with _ h6 _
      exact h4 h6
    · rintro (⟨_, _, _, e⟩ | ⟨_, _, _, e⟩) <;> injection e with _ e _
      · exact h2 e
      · exact h3 e
  have hlo : ∀ k, k < N → ∀ x t f, w.heap[k]? = some (.cells x t f) → w'.heap[k]? = some (.cells x t f) := fun k hk x t f hx => by
    refine hr.block k _ hx rfl (fun e => e) (by omega) ?_
    rintro (⟨h, _⟩ | ⟨h, _⟩) <;> omega
  refine ⟨?_, ?_, ?_, h.d1, h.d2, h.d3, fun k hk => Nat.lt_of_lt_of_le (hNw k hk) hr.size, h.f1, h.f2, h.f3⟩
  · obtain ⟨cs, c1, c2⟩ := h.cel
    exact ⟨cs, hty B _ _ _ c1 hNB (by decide) (by decide) (by decide), c2⟩
  · obtain ⟨xs, hx, hc⟩ := h.lst
    refine ⟨xs, row_at hx fun g cs hg hh => hty g _ _ _ hh (Nat.le_of_not_lt (h.f2 g hg)) (by decide) (by decide) (by decide), fun i hi => ?_⟩
    obtain ⟨Ai, ci, e1, e2, e3⟩ := hc i hi
    refine ⟨Ai, ci, e1, e2, fun hn => ?_⟩
    obtain ⟨b, off, eb, hb, hcel⟩ := e3 hn
    obtain ⟨cs', T', fr', g1, _⟩ := cell_block (hcel 0 hn).1
    have hbk : w'.heap[b]? = w.heap[b]? := (hlo b hb _ _ _ g1).trans g1.symm
    exact ⟨b, off, eb, hb, fun i hi => ⟨(World.cell?_of_block hbk).trans (hcel i hi).1, (World.cell?_of_block hbk).trans (hcel i hi).2⟩⟩
  · intro j hj
    exact row_at (h.use j hj) fun g cs hg hh => hty g _ _ _ hh (Nat.le_of_not_lt (h.f3 j hj g hg)) (by decide) (by decide) (by decide)
end
theorem okD_lits (v : Nat → Bool) {j : Nat} (hj : j ≤ 12) : okD (litsV v j) := by
  refine ⟨fun z hz => ?_, ?_⟩
  · obtain ⟨i, hi, rfl⟩ := List.mem_map.1 hz
    have := List.mem_range.1 hi
    unfold litV
    split <;> exact litB_iff.2 ⟨by omega, by omega, by omega⟩
  · unfold litsV
    rw [List.pairwise_map]
    refine List.pairwise_lt_range.imp fun {a b} hab => ?_
    unfold apartL litV
    split <;> split <;> constructor <;> omega
def nxL (m : Nat) (p : Nat → Con) (v : Nat → Bool) : List Nat := (List.range 4096).filter fun k => qS p m k && decide (numU v 12 ≤ k)
def nxOk (m : Nat) (p : Nat → Con) (nv : Nat) (v : Nat → Bool) : Bool := probB m p && (nv == 12 && (nxL m p v).head?.isSome)
def nxN (m : Nat) (p : Nat → Con) (nv : Nat) (v : Nat → Bool) : Nat := if nxOk m p nv v = true then 12 else 0
def nxV (m : Nat) (p : Nat → Con) (v : Nat → Bool) : Nat → Bool := valN ((nxL m p v).head?.getD 0)
theorem nxN_le (m : Nat) (p : Nat → Con) (nv : Nat) (v : Nat → Bool) : nxN m p nv v ≤ 12 := by unfold nxN; split <;> omega
def NxRes (w : World) (m : Nat) (p : Nat → Con) (nv : Nat) (v : Nat → Bool) : Ending → World → Prop := fun e w' => ∃ A cap, e = .returned (.tuple #[.slice A (nxN m p nv v) cap, .bool (nxOk m p nv v)]) ∧ FrB w' w.heap.size 4 A (nxN m p nv v) (nxV m p v) ∧ Below w.heap.size w w'
section
variable {w w' : World} {m nv : Nat} {p : Nat → Con} {v : Nat → Bool}
theorem nx_no {A : Option Addr} {cap : Nat} (h : nxOk m p nv v = false) (hb : Below w.heap.size w w') : NxRes w m p nv v (.returned (.tuple #[.slice A 0 cap, .bool false])) w' := by
  have e : nxN m p nv v = 0 := by unfold nxN; rw [h]; rfl
  exact ⟨A, cap, by rw [e, h], .inl e, hb⟩
theorem nx_yes {G cap k : Nat} (hv : probB m p = true) (hk : (nxL m p v).head? = some k) (hG : w.heap.size ≤ G) (hO : OwnB w' G 12 12 (valN k)) (hb : Below w.heap.size w w') : NxRes w m p 12 v (.returned (.tuple #[.slice (some ⟨G, 0, none⟩) 12 cap, .bool true])) w' := by
  have h : nxOk m p 12 v = true := by unfold nxOk; rw [hv, hk]; rfl
  have e : nxN m p 12 v = 12 := by unfold nxN; rw [if_pos h]
  refine ⟨some ⟨G, 0, none⟩, cap, by rw [e, h], .inr ⟨G, rfl, hG, ?_⟩, hb⟩
  rw [e]
  have e2 : nxV m p v = valN k := by unfold nxV; rw [hk]; rfl
  rw [e2]
  exact hO.toV
theorem nx_inv (h : probB m p = false) : nxOk m p nv v = false := by unfold nxOk; rw [h]; rfl
theorem nx_len (h : nv ≠ 12) : nxOk m p nv v = false := by unfold nxOk; rw [show (nv == 12) = false from beq_eq_false_iff_ne.2 h]; simp
theorem nx_none (h : nxL m p v = []) : nxOk m p nv v = false := by unfold nxOk; rw [h]; simp
end

set_option maxRecDepth 100000 in
set_option maxHeartbeats 1600000 in
theorem implNext_any (A Av : Option Addr) (m cap nv capv : Nat) (p : Nat → Con) (v : Nat → Bool) (w : World) (hm : m ≤ 1048576) (hs : ∀ i, i < m → (p i).n ≤ 1048576) (hnv : nv ≤ 1048576) (hr : RdP w w.heap.size A m p) (hrv : RdB w w.heap.size Av nv v) :
    Calls Try.prog 15 #[.slice A m cap, .slice Av nv capv] w (NxRes w m p nv v) := by
  have Hpr := Lib.hid (implProblem_any A m cap p w hm hs hr)
  cases hv : probB m p with
  | false =>
    have Hfin := Lib.hid (nx_inv (nv := nv) (v := v) hv)
    rw [hv] at Hpr
    clear hv hr hs hrv
    go_enter Try.func15, Try.ntmps15
    go_wp2_with fail
    refine Hpr.out.mono ?_
    rintro e w1 ⟨rfl, hb⟩
    have HB1 := Lib.hid hb
    clear hb
    go_wp2
    go_ret2
    exact nx_no Hfin.out HB1.out
  | true =>
    rw [hv] at Hpr
    by_cases h12 : nv = 12
    · subst h12
      have hpo := prob_ok hv
      have HOk := Lib.hid (show ∀ i, i < m → okC (p i) ∧ (p i).n ≤ 1048576 from fun i hi => ⟨hpo.2 i hi, hs i hi⟩)
      have hm4 : m ≤ 1400 := by omega
      have HR := Lib.hid hr
      have HRV := Lib.hid hrv
      have HVld := Lib.hid hv
      clear hpo hs hr hrv hv
      go_enter Try.func15, Try.ntmps15
      go_wp2_with fail
      refine Hpr.out.mono ?_
      rintro e w1 ⟨rfl, hb⟩
      have HB1 := Lib.hid hb
      have hw1 := hb.size
      clear hb Hpr
      go_wp2_with fail
      refine (solFromV_any A m cap p Av capv v w1 hm4 (HR.out.later HB1.out) HOk.out (HRV.out.later HB1.out)).mono ?_
      rintro e w2 ⟨B, S, Bx, lv, uv, dv, rfl, hpg, hb, hS, hBx, hbs, hdec, hbx⟩
      have HP := Lib.hid hpg
      have HS := Lib.hid hbs
      have HX := Lib.hid hbx
      have HD := Lib.hid hdec
      have hz2 := hb.size
      have HB2 := Lib.hid (bl_trans HB1.out hb)
      have hSw := hbs.lt
      clear hpg hb hbs hbx hdec
      go_wp2_with fail
      refine (callsIn_wide.1 (firstOf_in 3 (by omega) Bx S w1.heap.size w.heap.size (nxL m p v) w2 hSw hw1 (by omega) fun l J Jx W hb hJ hY hj => callsIn_wide.2 (solutions_any (3 - 1) l Bx S B w1.heap.size m (fun k => k < w1.heap.size) lv p uv (fun _ => False) W J Jx (litsV v 12) dv (nxL m p v) W (by omega) hm4 HOk.out (fun k hk => hk.elim) hS hBx (fun W' hrl => (HP.out.below hb).rl0 hS (HS.out.below hb) hrl) hJ hY ((hb.block Bx (lt_heap HX.out)).trans HX.out) (HS.out.below hb) (DecR.below HD.out hb) (Rl.refl _ _ _ _) (okD_lits v (Nat.le_refl _)) hj (Nat.le_trans hz2 hb.size) (sol_from _ v)))).mono ?_
      rintro e w3 ⟨⟨hL, rfl⟩ | ⟨k, G, hk, rfl, hG, hO⟩, hb⟩
      · have HB3 := Lib.hid (HB2.out.trans hb)
        clear hb
        go_wp2
        go_ret2
        exact nx_no (nx_none hL) HB3.out
      · have HB3 := Lib.hid (HB2.out.trans hb)
        have HO := Lib.hid hO
        have HK := Lib.hid (show (nxL m p v).head? = some k from by obtain ⟨t, ht⟩ := hk; rw [← ht]; rfl)
        clear hb hO hk
        go_wp2
        go_ret2
        exact nx_yes HVld.out HK.out (Nat.le_trans hw1 hG) HO.out HB3.out
    · have Hfin := Lib.hid (nx_len (m := m) (p := p) (v := v) h12)
      have hd : ((nv : Int) == 12) = false := by rw [beq_eq_false_iff_ne]; omega
      clear hv hr hs hrv h12
      go_enter Try.func15, Try.ntmps15
      go_wp2_with fail
      refine Hpr.out.mono ?_
      rintro e w1 ⟨rfl, hb⟩
      have HB1 := Lib.hid hb
      clear hb
      go_wp2
      go_ret2
      exact nx_no Hfin.out HB1.out
end Go.Proofs.Ytaenbajghblgiaa

namespace Go.Proofs.Ytaenbajghblgiaa
open Go.ChangeShapes Go.WideShapes Go.ChangeAt Go.RowKit Go.Shelf

theorem nx_found {m : Nat} {p : Nat → Con} {v : Nat → Bool} {j : Nat} (h0 : numU v 12 ≤ j) (hj : j < 4096) (hq : qS p m j = true) (hn : ∀ t, numU v 12 ≤ t → t < j → qS p m t = false) : (nxL m p v).head? = some j := by
  unfold nxL
  rw [List.head?_filter, List.find?_range_eq_some]
  refine ⟨?_, List.mem_range.2 hj, fun t ht => ?_⟩
  · rw [hq, decide_eq_true h0]; rfl
  · by_cases h : numU v 12 ≤ t
    · rw [hn t h ht]; rfl
    · rw [decide_eq_false h, Bool.and_false]; rfl
theorem nx_end {m : Nat} {p : Nat → Con} {v : Nat → Bool} (hn : ∀ t, numU v 12 ≤ t → t < 4096 → qS p m t = false) : nxL m p v = [] := by
  unfold nxL
  rw [List.filter_eq_nil_iff]
  intro t ht
  by_cases h : numU v 12 ≤ t
  · rw [hn t h (List.mem_range.1 ht)]; exact Bool.false_ne_true
  · rw [decide_eq_false h, Bool.and_false]; exact Bool.false_ne_true

set_option maxRecDepth 100000 in
set_option maxHeartbeats 800000 in
theorem l5Number_any (Av : Option Addr) (capv : Nat) (v : Nat → Bool) (w : World) (hr : RdB w w.heap.size Av 12 v) :
    Calls Try.prog 35 #[.slice Av 12 capv] w fun e w' => e = .returned (.int .i64 (numU v 12)) ∧ Below w.heap.size w w' := by
  go_enter Try.func35, Try.ntmps35
  go_wp2
  go_loopw [3, 4] (fun c i wr => ∃ j : Nat, j ≤ 12 ∧ i = .int .i64 j ∧ c = .int .i64 (numU v j) ∧ wr = w) (fun _ i _ => 12 - (intOf i).toNat)
  case atStart => exact ⟨0, by omega, rfl, rfl, rfl⟩
  case round =>
    obtain ⟨j, hj, rfl, rfl, rfl⟩ := hrel
    by_cases hlt : j < 12
    · obtain ⟨b, off, rfl, hbl, hc⟩ := hr (by omega)
      have hc1 := hc j hlt
      have hp : numU v j < 4096 := Nat.lt_of_lt_of_le (numU_lt v j) (by rw [show 4096 = 2 ^ 12 from rfl]; exact Nat.pow_le_pow_right (by omega) (by omega))
      have hpi : (numU v j : Int) < 4096 := by omega
      have hp0 : 0 ≤ (numU v j : Int) := by omega
      clear hc hr
      cases hv : v j with
      | true =>
        rw [hv] at hc1
        have Hs := Lib.hid (show numU v (j + 1) = 2 * numU v j + 1 from by rw [numU_succ, hv]; rfl)
        clear hv
        go_wp2
        go_roundw
        case rel => exact ⟨j + 1, by omega, by go_num, by rw [Hs.out]; go_num, trivial⟩
        case measure => simp [intOf]; omega
      | false =>
        rw [hv] at hc1
        have Hs := Lib.hid (show numU v (j + 1) = 2 * numU v j from by rw [numU_succ, hv]; rfl)
        clear hv
        go_wp2
        go_roundw
        case rel => exact ⟨j + 1, by omega, by go_num, by rw [Hs.out]; go_num, trivial⟩
        case measure => simp [intOf]; omega
    · have e : j = 12 := by omega
      subst e
      go_wp2
      go_ret
      exact ⟨rfl, Below.refl _ _⟩

set_option maxRecDepth 100000 in
set_option maxHeartbeats 1600000 in
theorem specNext_any (A Av : Option Addr) (m cap nv capv : Nat) (p : Nat → Con) (v : Nat → Bool) (w : World) (hm : m ≤ 1048576) (hs : ∀ i, i < m → (p i).n ≤ 1048576) (hnv : nv ≤ 1048576) (hr : RdP w w.heap.size A m p) (hrv : RdB w w.heap.size Av nv v) :
    Calls Try.prog 13 #[.slice A m cap, .slice Av nv capv] w (NxRes w m p nv v) := by
  have Hpr := Lib.hid (specProblem_any A m cap p w hm hs hr)
  cases hv : probB m p with
  | false =>
    have Hfin := Lib.hid (nx_inv (nv := nv) (v := v) hv)
    rw [hv] at Hpr
    clear hv hr hs hrv
    go_enter Try.func13, Try.ntmps13
    go_wp2_with fail
    refine Hpr.out.mono ?_
    rintro e w1 ⟨rfl, hb⟩
    have HB1 := Lib.hid hb
    clear hb
    go_wp2
    go_ret2
    exact nx_no Hfin.out (bl_trans HB1.out (bl_alloc (Below.refl _ _) _))
  | true =>
    rw [hv] at Hpr
    by_cases h12 : nv = 12
    · subst h12
      have HVal := Lib.hid (prob_all hv)
      have HN := Lib.hid hs
      have HR := Lib.hid hr
      have HRV := Lib.hid hrv
      have HVld := Lib.hid hv
      clear hs hr hrv hv
      go_enter Try.func13, Try.ntmps13
      go_wp2_with fail
      refine Hpr.out.mono ?_
      rintro e w1 ⟨rfl, hb⟩
      have HB1 := Lib.hid hb
      clear hb Hpr
      go_wp2_with fail
      refine (l5Number_any _ _ v _ (HRV.out.later HB1.out)).mono ?_
      rintro e w2 ⟨rfl, hb⟩
      have HB2 := Lib.hid (bl_trans HB1.out hb)
      clear hb HB1
      have hn0 : numU v 12 ≤ 4096 := Nat.le_of_lt (numU_lt v 12)
      go_wp2
      go_loopw [6] (fun i wr => ∃ j : Nat, numU v 12 ≤ j ∧ j ≤ 4096 ∧ i = .int .i64 j ∧ (∀ t, numU v 12 ≤ t → t < j → qS p m t = false) ∧ Below w.heap.size w wr) (fun i _ => 4096 - (intOf i).toNat)
      case atStart => exact ⟨numU v 12, Nat.le_refl _, hn0, rfl, fun t h1 h2 => by omega, HB2.out⟩
      case round =>
        obtain ⟨j, h0, hj, rfl, hno, hb⟩ := hrel
        have HNo := Lib.hid hno
        clear hno
        by_cases hlt : j < 4096
        · have HBr := Lib.hid hb
          clear hb
          have hji : (j : Int) < 4096 := by omega
          go_wp2_with fail
          refine (l5Values_any j _ hlt).mono ?_
          rintro e w3 ⟨G, rfl, hG, hO, hb⟩
          have HB3 := Lib.hid (bl_trans HBr.out hb)
          have HO := Lib.hid hO
          clear hb hG hO HBr
          go_wp2_with fail
          refine (l3All_any _ _ _ _ _ p (valN j) _ hm HN.out (HR.out.later HB3.out) HO.out.rdAt HVal.out).mono ?_
          rintro e w4 ⟨rfl, hb⟩
          have HB4 := Lib.hid (bl_trans HB3.out hb)
          clear hb HB3 HO
          cases hq : allE p (valN j) m with
          | false =>
            have Hq := Lib.hid (show qS p m j = false from hq)
            clear hq
            go_wp2
            go_roundw
            case rel => exact ⟨j + 1, by omega, by omega, by go_num, fun t h1 h2 => by
              rcases Nat.lt_or_ge t j with h | h
              · exact HNo.out t h1 h
              · rw [show t = j by omega]; exact Hq.out, HB4.out⟩
            case measure => simp [intOf]; omega
          | true =>
            have Hq := Lib.hid (show qS p m j = true from hq)
            clear hq
            go_wp2_with fail
            refine (l5Values_any j _ hlt).mono ?_
            rintro e w5 ⟨G, rfl, hG, hO, hb⟩
            have HB5 := Lib.hid (bl_trans HB4.out hb)
            have HO := Lib.hid hO
            have hGw : w.heap.size ≤ G := Nat.le_trans HB4.out.size hG
            clear hb hG hO HB4
            go_wp2
            go_ret2
            exact nx_yes HVld.out (nx_found h0 hlt Hq.out HNo.out) hGw HO.out HB5.out
        · have e : j = 4096 := by omega
          subst e
          go_wp2
          go_ret2
          exact nx_no (nx_none (nx_end HNo.out)) (bl_trans hb (bl_alloc (Below.refl _ _) _))
    · have Hfin := Lib.hid (nx_len (m := m) (p := p) (v := v) h12)
      have hd : ((nv : Int) == 12) = false := by rw [beq_eq_false_iff_ne]; omega
      clear hv hr hs hrv h12
      go_enter Try.func13, Try.ntmps13
      go_wp2_with fail
      refine Hpr.out.mono ?_
      rintro e w1 ⟨rfl, hb⟩
      have HB1 := Lib.hid hb
      clear hb
      go_wp2
      go_ret2
      exact nx_no Hfin.out (bl_trans HB1.out (bl_alloc (Below.refl _ _) _))
end Go.Proofs.Ytaenbajghblgiaa

