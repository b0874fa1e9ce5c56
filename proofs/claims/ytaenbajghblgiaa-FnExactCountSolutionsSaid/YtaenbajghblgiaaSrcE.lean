/- A range over the iterator of solutions whose body never leaves early (no claim of its own). Conditions: as each theorem states. -/
import Derived.Test.YtaenbajghblgiaaSrcC
import Derived.RangeFuncNested
import Derived.RangeFuncBound
import Derived.RangeFuncCalls
import Derived.RangeFuncLeaves
import Derived.RangeFuncFrom
namespace Go.Proofs.Ytaenbajghblgiaa
open Go.ChangeShapes Go.WideShapes Go.ChangeAt Go.RowKit Go.Shelf

theorem Kx.refl (K : Nat → Prop) (A : World) : Kx K A A := ⟨rfl, rfl, rfl, Nat.le_refl _, fun _ _ h _ _ => h⟩
theorem Kx.trans {K : Nat → Prop} {A B C : World} (h : Kx K A B) (k : Kx K B C) : Kx K A C :=
  ⟨k.os.trans h.os, k.tape.trans h.tape, k.output.trans h.output, Nat.le_trans h.size k.size, fun i o hi h0 h1 => k.block i o (h.block i o hi h0 h1) h0 h1⟩
theorem Kx.putObj (K : Nat → Prop) {A : World} {l : Nat} {r : Obj} (hr : A.heap[l]? = some r) (hc : r.isCells = false) (o' : Obj) : Kx K A (A.putObj l o') :=
  ⟨rfl, rfl, rfl, by simp, fun k o hk hcc _ => by
    by_cases e : k = l
    · subst e
      rw [hr] at hk
      cases hk
      rw [hc] at hcc
      cases hcc
    · exact (World.putObj_heap_other e).trans hk⟩
theorem Kx.alloc (K : Nat → Prop) (A : World) (o' : Obj) : Kx K A (A.alloc o') :=
  ⟨rfl, rfl, rfl, by simp, fun k _ hk _ _ => (Below.heap_alloc A o' k (lt_heap hk)).trans hk⟩
theorem Kx.setC {K : Nat → Prop} (A : World) {C : Nat} (hK : K C) (o : Nat) (u : Value) : Kx K A (A.setCell ⟨C, o, none⟩ u) :=
  ⟨rfl, rfl, rfl, by simp [World.setCell], fun k x hk _ h => (Below.heap_setCell A ⟨C, o, none⟩ u k (fun e => h (e ▸ hK))).trans hk⟩
/-- What may turn beside the box S: what a search owns, and what is newer than n. -/
def isNew (n N k : Nat) (o : Obj) : Prop := isOwn N k o ∨ n ≤ k
theorem ms_putObj {n N S l : Nat} {A : World} (hl : n ≤ l) (o' : Obj) : Ms (isNew n N) S A (A.putObj l o') :=
  ⟨rfl, rfl, rfl, by simp, fun k _ hk _ h => by
    have hne : k ≠ l := fun e => h (.inr (by omega))
    exact (World.putObj_heap_other hne).trans hk⟩
variable {n : Nat} {P : Program}
set_option maxHeartbeats 1000000 in
theorem range_sol {g : Operand} {ps : Array Tmp} {assign body : Code} {Q : Exit → Act → World → Prop} {a : Act} {w : World} {K : Nat → Prop} {N S : Nat} {L : List Nat}
    (h1 : 1 ≤ n) {gf : Nat} {lb : Array Value} (hg : a.eval g = .func (.func gf) #[] lb) (eg : ∀ args w, (callFunc gf args).run P w = .ok (.enter gf args) w)
    (hseq : ∀ (l : Nat) (J Jx : List Nat → World → Prop) (W : World), Below w.heap.size w W → (∀ pre A B, J pre A → Ms (isOwn N) S A B → J pre B) →
      (∀ pre k G W1, J pre W1 → pre ++ [k] <+: L → N ≤ G → OwnB W1 G 12 12 (valN k) → YieldAt Fence.wide (n - 1 - 1) P l #[.slice (some ⟨G, 0, none⟩) 12 12] W1 fun e W' => (e = .returned (.bool true) ∧ J (pre ++ [k]) W' ∧ Kx K W1 W') ∨ (e = .returned (.bool false) ∧ Jx (pre ++ [k]) W')) →
      J [] W → CallsIn Fence.wide (n - 1) P gf (#[.func (.yield l) #[] #[]] ++ lb) W fun e W' => (∃ v, e = .returned v) ∧ (J L W' ∨ ∃ pre, Jx pre W'))
    (hSw : S < w.heap.size) (hps : ps.size = 1)
    (I : List Nat → World → Prop) (hI : ∀ pre A B, I pre A → Ms (isNew w.heap.size N) S A B → I pre B) (h0 : I [] w)
    (hround : ∀ (l : Nat) (pre : List Nat) (k G : Nat) (W : World) (r : Obj), w.heap.size ≤ l → W.heap[l]? = some r → r.isCells = false → I pre W → pre ++ [k] <+: L → N ≤ G → OwnB W G 12 12 (valN k) →
      assign.wpIn (Fence.wide.inRound l) (n - 1 - 1) P (Exit.then (fun a' W' => KeepsOthers W W' ∧ Kx K W W' ∧ ∀ o', body.wpIn (Fence.wide.inRound l) (n - 1 - 1) P (fun e _ W2 => e = .normal ∧ KeepsOthers (W'.putObj l o') W2 ∧ Kx K (W'.putObj l o') W2 ∧ I (pre ++ [k]) W2) a' (W'.putObj l o')) (fun _ _ _ => False))
        { tmps := (ps.zip (#[.slice (some ⟨G, 0, none⟩) 12 12] : Array Value)).foldl (fun t (p, v) => t.setIfInBounds p v) a.tmps, defers := [] } W)
    (hdone : ∀ (D : Nat) (W : World), w.heap.size ≤ D → I L W → W.heap[D]? = some (.deferred (some [])) → Q .normal { a with defers := { target := .collected D, args := #[] } :: a.defers } W) :
    (Code.rangeFunc g ps assign body).wpIn Fence.wide n P Q a w := by
  refine wpIn_rangeFunc fun fn hfn => ?_
  rw [show Fence.wide.round = none from rfl]
  obtain ⟨rec, hrec⟩ : ∃ rec : LoopState → Option Code → Loop, rec = fun st pe => { state := st, pending := pe, fn, tmps := a.tmps, params := ps, assign, body, defers := w.heap.size } := ⟨_, rfl⟩
  obtain ⟨W1, hW1⟩ : ∃ W1, (w.alloc (.deferred (some []))).alloc (.loop (rec .ready none)) = W1 := ⟨_, rfl⟩
  have hL1 : W1.heap[w.heap.size + 1]? = some (.loop (rec .ready none)) := by
    rw [← hW1]
    have := World.alloc_heap_new (w.alloc (.deferred (some []))) (.loop (rec .ready none))
    rwa [World.size_alloc] at this
  have hD1 : W1.heap[w.heap.size]? = some (.deferred (some [])) := by
    rw [← hW1]
    exact (Below.heap_alloc _ _ _ (by simp)).trans (World.alloc_heap_new w _)
  have hbW : Below w.heap.size w W1 := by
    rw [← hW1]
    exact bl_alloc (bl_alloc (Below.refl _ _) _) _
  have hI1 : I [] W1 := hI _ _ _ h0 (ms_below hbW)
  refine ⟨w.heap.size + 1, [{ target := .collected w.heap.size, args := #[] }], W1, { target := .fn (.func gf) lb, args := #[.func (.yield (w.heap.size + 1)) #[] #[]] }, W1, gf,
    #[.func (.yield (w.heap.size + 1)) #[] #[]] ++ lb, W1, ?_, ?_, ?_, ?_, fun _ => h1, ?_⟩
  · rw [← hW1, hrec]
    exact run_enterLoop_outer _ _ _ _ _
  · simp only [resolve, hg]
    simp [go_sem]
  · intro f' hf'
    simp [Target.leads] at hf'
    subst hf'
    exact trivial
  · simp [invoke, go_sem, eg]
  · refine (hseq (w.heap.size + 1) (fun pre W => I pre W ∧ W.heap[w.heap.size + 1]? = some (.loop (rec .ready none)) ∧ W.heap[w.heap.size]? = some (.deferred (some []))) (fun _ _ => False) W1 hbW ?_ ?_ ⟨hI1, hL1, hD1⟩).mono ?_
    · rintro pre A B ⟨hi, hl, hd⟩ hm
      exact ⟨hI _ _ _ hi (hm.mono fun _ _ h => .inl h), hm.block _ _ hl (by omega) (by rintro (⟨_, _, _, h⟩ | ⟨_, _, _, h⟩) <;> cases h), hm.block _ _ hd (by omega) (by rintro (⟨_, _, _, h⟩ | ⟨_, _, _, h⟩) <;> cases h)⟩
    · rintro pre k G W ⟨hi, hl, hd⟩ hpre hG hO
      have k1 : w.heap.size + 1 < W.heap.size := lt_heap hl
      have hy := run_yield (P := P) (args := #[.slice (some ⟨G, 0, none⟩) 12 12]) hl (by rw [hrec]; exact hps.symm)
      rw [hrec] at hy
      refine ⟨fn, _, assign, body, hy, roundIn_of_wpIn hfn (wpIn_mono (hround _ pre k G W _ (by omega) hl rfl hi hpre hG hO) ?_)⟩
      rintro e a' W' hp
      cases e with
      | normal =>
        obtain ⟨hk1, hh1, hbody⟩ := hp
        have hl1 := hk1.same _ _ hl rfl
        have hd1 := hk1.same _ _ hd rfl
        have k2 : w.heap.size + 1 < W'.heap.size := lt_heap hl1
        refine ⟨_, run_beginRound hl1 (by rw [hrec]), ?_⟩
        have hl2 : (W'.putObj (w.heap.size + 1) (.loop { rec .ready none with state := .busy })).heap[w.heap.size + 1]? = some (.loop { rec .ready none with state := .busy }) := World.putObj_heap_same k2
        have hd2 : (W'.putObj (w.heap.size + 1) (.loop { rec .ready none with state := .busy })).heap[w.heap.size]? = some (.deferred (some [])) := (World.putObj_heap_other (by omega)).trans hd1
        refine wpIn_mono (hbody _) ?_
        rintro e a2 W2 ⟨rfl, hk3, hh3, hi3⟩
        have hl3 := hk3.same _ _ hl2 rfl
        have hd3 := hk3.same _ _ hd2 rfl
        have k3 : w.heap.size + 1 < W2.heap.size := lt_heap hl3
        have hr := run_endRound (P := P) none hl3
        rw [hrec] at hr
        refine ⟨_, _, hr, .inl ⟨rfl, ⟨?_, ?_, (World.putObj_heap_other (by omega)).trans hd3⟩, ?_⟩⟩
        · exact hI _ _ _ hi3 (ms_putObj (by omega) _)
        · rw [hrec]
          exact World.putObj_heap_same k3
        · exact ((hh1.trans (Kx.putObj K hl1 rfl _)).trans hh3).trans (Kx.putObj K hl3 rfl _)
      | ret => exact hp.elim
      | exit id => exact hp.elim
      | goto t => exact hp.elim
      | panic ch => exact hp.elim
      | outgrown => exact hp.elim
    · rintro e W2 ⟨⟨v, rfl⟩, ⟨hi, hl, hd⟩ | ⟨_, h⟩⟩
      · have hr := run_endLoop (P := P) hl (by rw [hrec]; simp)
        rw [hrec] at hr
        exact ⟨none, _, hr, hdone _ _ (Nat.le_refl _) (hI _ _ _ hi (ms_putObj (by omega) _)) ((World.putObj_heap_other (by omega)).trans hd)⟩
      · exact h.elim
end Go.Proofs.Ytaenbajghblgiaa
