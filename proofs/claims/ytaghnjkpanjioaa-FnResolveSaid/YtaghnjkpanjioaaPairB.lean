/- A range over an iterator that writes the two variables that it has captured, its body never leaving early (no claim of its own). Conditions: as each theorem states. -/
import Derived.Test.YtaghnjkpanjioaaComB
import Derived.RangeFuncNested
import Derived.RangeFuncBound
import Derived.RangeFuncCalls
import Derived.RangeFuncLeaves
import Derived.RangeFuncFrom
namespace Go.Proofs.Ytaghnjkpanjioaa
open Go.ChangeShapes Go.WideShapes Go.ChangeAt Go.RowKit

/-- The streams are as they were; of the blocks that lay none has turned but those of K. -/
structure Mv (K : Nat → Prop) (A B : World) : Prop where
  os : B.os = A.os
  tape : B.tape = A.tape
  output : B.output = A.output
  size : A.heap.size ≤ B.heap.size
  block : ∀ k, k < A.heap.size → ¬ K k → B.heap[k]? = A.heap[k]?
section
variable {K : Nat → Prop} {A B C : World}
theorem Mv.refl (K : Nat → Prop) (A : World) : Mv K A A := ⟨rfl, rfl, rfl, Nat.le_refl _, fun _ _ _ => rfl⟩
theorem Mv.trans (h : Mv K A B) (k : Mv K B C) : Mv K A C :=
  ⟨k.os.trans h.os, k.tape.trans h.tape, k.output.trans h.output, Nat.le_trans h.size k.size, fun i hi hk => (k.block i (Nat.lt_of_lt_of_le hi h.size) hk).trans (h.block i hi hk)⟩
theorem Mv.alloc (h : Mv K A B) (o : Obj) : Mv K A (B.alloc o) :=
  ⟨h.os, h.tape, h.output, Nat.le_trans h.size (by simp), fun i hi hk => (Below.heap_alloc B o i (Nat.lt_of_lt_of_le hi h.size)).trans (h.block i hi hk)⟩
theorem Mv.drew (h : Mv K A B) : Mv K A B.drew := ⟨h.os, h.tape, h.output, h.size, h.block⟩
theorem Mv.setCell (h : Mv K A B) {p : Addr} (hp : K p.block ∨ A.heap.size ≤ p.block) (v : Value) : Mv K A (B.setCell p v) :=
  ⟨h.os, h.tape, h.output, by simpa [World.setCell] using h.size, fun i hi hk => (Below.heap_setCell B p v i (fun e => hp.elim (fun hp => hk (e ▸ hp)) (fun hp => by omega))).trans (h.block i hi hk)⟩
theorem Mv.putObj {l : Nat} (h : Mv K A B) (hl : K l ∨ A.heap.size ≤ l) (o : Obj) : Mv K A (B.putObj l o) :=
  ⟨h.os, h.tape, h.output, by simpa using h.size, fun i hi hk => (World.putObj_heap_other (r := l) (k := i) (fun e => hl.elim (fun hl => hk (by rw [e]; exact hl)) (fun hl => by omega))).trans (h.block i hi hk)⟩
theorem Mv.below {n : Nat} (h : Mv K A B) (hn : n ≤ A.heap.size) (hK : ∀ k, K k → n ≤ k) : Below n A B :=
  ⟨h.os, h.tape, h.output, h.size, fun k hk => h.block k (by omega) (fun hh => by have := hK k hh; omega)⟩
theorem Mv.cell (h : Mv K A B) {j o : Nat} {v : Value} (hK : ¬ K j) (hc : A.cell? ⟨j, o, none⟩ = some v) : B.cell? ⟨j, o, none⟩ = some v :=
  (World.cell?_of_block (w := A) (h.block j (World.block_lt_of_cell? A ⟨j, o, none⟩ hc) hK)).trans hc
end

/-- What is asked of a yield's round: the blocks below n₀ and the iterator's own two stay. -/
def Held (n₀ b₁ b₂ : Nat) (A B : World) : Prop := ∀ k, (k < n₀ ∨ k = b₁ ∨ k = b₂) → B.heap[k]? = A.heap[k]?

/-- The contract of an iterator that hands over the elements xs, one by one, and writes the two blocks b₁ and b₂ alone. -/
def SeqTwo {α : Type} (F : Fence) (n : Nat) (P : Program) (g : Nat) (lb : Array Value) (encs : α → Array Value) (n₀ b₁ b₂ : Nat) (xs : List α) (w : World) : Prop :=
  ∀ (l : Nat) (J : List α → World → Prop) (W : World), Below w.heap.size w W → (∀ pre A B, J pre A → Mv (fun k => k = b₁ ∨ k = b₂) A B → J pre B) →
    (∀ pre x W1, J pre W1 → pre ++ [x] <+: xs → YieldAt F (n - 1) P l (encs x) W1 fun e W' => e = .returned (.bool true) ∧ J (pre ++ [x]) W' ∧ Held n₀ b₁ b₂ W1 W' ∧ W1.heap.size ≤ W'.heap.size) →
    J [] W → CallsIn F n P g (#[.func (.yield l) #[] #[]] ++ lb) W fun e W' => (∃ v, e = .returned v) ∧ J xs W'

variable {F : Fence} {n : Nat} {P : Program}
set_option maxHeartbeats 1000000 in
theorem range_two {α : Type} {g : Operand} {ps : Array Tmp} {assign body : Code} {Q : Exit → Act → World → Prop} {a : Act} {w : World}
    (hro : F.round = none) (h1 : 1 ≤ n) {gf : Nat} {lb : Array Value} (hg : a.eval g = .func (.func gf) #[] lb) (hFg : F.fn gf) (eg : ∀ args w, (callFunc gf args).run P w = .ok (.enter gf args) w)
    {encs : α → Array Value} {n₀ b₁ b₂ : Nat} {xs : List α} {w0 : World} (hseq : SeqTwo F (n - 1) P gf lb encs n₀ b₁ b₂ xs w0) (hb0 : Below w0.heap.size w0 w) (hn0 : n₀ ≤ w.heap.size) (hb1 : b₁ < w.heap.size) (hb2 : b₂ < w.heap.size) (hps : ∀ x, (encs x).size = ps.size)
    (I : List α → World → Prop) (hI : ∀ pre A B (K : Nat → Prop), I pre A → Mv K A B → (∀ k, K k → k = b₁ ∨ k = b₂ ∨ (w.heap.size ≤ k ∧ ∃ o, A.heap[k]? = some o ∧ o.isCells = false)) → I pre B) (h0 : I [] w)
    (hround : ∀ (l : Nat) (pre : List α) (x : α) (W : World) (r : Obj), w.heap.size ≤ l → W.heap[l]? = some r → r.isCells = false → I pre W → pre ++ [x] <+: xs →
      assign.wpIn (F.inRound l) (n - 1 - 1) P (Exit.then (fun a' W' => KeepsOthers W W' ∧ Held n₀ b₁ b₂ W W' ∧ ∀ o', body.wpIn (F.inRound l) (n - 1 - 1) P (fun e _ W2 => e = .normal ∧ KeepsOthers (W'.putObj l o') W2 ∧ Held n₀ b₁ b₂ (W'.putObj l o') W2 ∧ I (pre ++ [x]) W2) a' (W'.putObj l o')) (fun _ _ _ => False))
        { tmps := (ps.zip (encs x)).foldl (fun t (p, v) => t.setIfInBounds p v) a.tmps, defers := [] } W)
    (hdone : ∀ (D : Nat) (W : World), w.heap.size ≤ D → I xs W → W.heap[D]? = some (.deferred (some [])) → Q .normal { a with defers := { target := .collected D, args := #[] } :: a.defers } W) :
    (Code.rangeFunc g ps assign body).wpIn F n P Q a w := by
  refine wpIn_rangeFunc fun fn hfn => ?_
  rw [hro]
  obtain ⟨rec, hrec⟩ : ∃ rec : LoopState → Option Code → Loop, rec = fun st pe => { state := st, pending := pe, fn, tmps := a.tmps, params := ps, assign, body, defers := w.heap.size } := ⟨_, rfl⟩
  obtain ⟨W1, hW1⟩ : ∃ W1, (w.alloc (.deferred (some []))).alloc (.loop (rec .ready none)) = W1 := ⟨_, rfl⟩
  have hL1 : W1.heap[w.heap.size + 1]? = some (.loop (rec .ready none)) := by
    rw [← hW1]
    have := World.alloc_heap_new (w.alloc (.deferred (some []))) (.loop (rec .ready none))
    rwa [World.size_alloc] at this
  have hD1 : W1.heap[w.heap.size]? = some (.deferred (some [])) := by
    rw [← hW1]
    exact (Below.heap_alloc _ _ _ (by simp)).trans (World.alloc_heap_new w _)
  have hmv : Mv (fun _ => False) w W1 := by
    rw [← hW1]
    exact ((Mv.refl _ w).alloc _).alloc _
  have hI1 : I [] W1 := hI _ _ _ _ h0 hmv (fun k hk => hk.elim)
  have hbW : Below w0.heap.size w0 W1 := hb0.trans (hmv.below hb0.size (fun k hk => hk.elim))
  refine ⟨w.heap.size + 1, [{ target := .collected w.heap.size, args := #[] }], W1, { target := .fn (.func gf) lb, args := #[.func (.yield (w.heap.size + 1)) #[] #[]] }, W1, gf,
    #[.func (.yield (w.heap.size + 1)) #[] #[]] ++ lb, W1, ?_, ?_, ?_, ?_, fun _ => h1, ?_⟩
  · rw [← hW1, hrec]
    exact run_enterLoop_outer _ _ _ _ _
  · simp only [resolve, hg]
    simp [go_sem]
  · intro f' hf'
    simp [Target.leads] at hf'
    subst hf'
    exact hFg
  · simp [invoke, go_sem, eg]
  · refine (hseq (w.heap.size + 1) (fun pre W => I pre W ∧ W.heap[w.heap.size + 1]? = some (.loop (rec .ready none)) ∧ W.heap[w.heap.size]? = some (.deferred (some []))) W1 hbW ?_ ?_ ⟨hI1, hL1, hD1⟩).mono ?_
    · rintro pre A B ⟨hi, hl, hd⟩ hm
      have k1 : w.heap.size + 1 < A.heap.size := (Array.getElem?_eq_some_iff.1 hl).1
      exact ⟨hI _ _ _ _ hi hm (fun k hk => hk.elim .inl (fun h => .inr (.inl h))), (hm.block _ k1 (by omega)).trans hl, (hm.block _ (by omega) (by omega)).trans hd⟩
    · rintro pre x W ⟨hi, hl, hd⟩ hpre
      have k1 : w.heap.size + 1 < W.heap.size := (Array.getElem?_eq_some_iff.1 hl).1
      have hy := run_yield (P := P) (args := encs x) hl (by rw [hrec]; exact hps x)
      rw [hrec] at hy
      refine ⟨fn, _, assign, body, hy, roundIn_of_wpIn hfn (wpIn_mono (hround _ pre x W _ (by omega) hl rfl hi hpre) ?_)⟩
      rintro e a' W' hp
      cases e with
      | normal =>
        obtain ⟨hk1, hh1, hbody⟩ := hp
        have hl1 := hk1.same _ _ hl rfl
        have hd1 := hk1.same _ _ hd rfl
        have k2 : w.heap.size + 1 < W'.heap.size := (Array.getElem?_eq_some_iff.1 hl1).1
        refine ⟨_, run_beginRound hl1 (by rw [hrec]), ?_⟩
        have hl2 : (W'.putObj (w.heap.size + 1) (.loop { rec .ready none with state := .busy })).heap[w.heap.size + 1]? = some (.loop { rec .ready none with state := .busy }) := World.putObj_heap_same k2
        have hd2 : (W'.putObj (w.heap.size + 1) (.loop { rec .ready none with state := .busy })).heap[w.heap.size]? = some (.deferred (some [])) := (World.putObj_heap_other (by omega)).trans hd1
        refine wpIn_mono (hbody _) ?_
        rintro e a2 W2 ⟨rfl, hk3, hh3, hi3⟩
        have hl3 := hk3.same _ _ hl2 rfl
        have hd3 := hk3.same _ _ hd2 rfl
        have k3 : w.heap.size + 1 < W2.heap.size := (Array.getElem?_eq_some_iff.1 hl3).1
        have hr := run_endRound (P := P) none hl3
        rw [hrec] at hr
        refine ⟨_, _, hr, rfl, ⟨?_, ?_, (World.putObj_heap_other (by omega)).trans hd3⟩, ?_, ?_⟩
        · exact hI _ _ _ (fun k => k = w.heap.size + 1) hi3 ((Mv.refl (fun k => k = w.heap.size + 1) W2).putObj (.inl rfl) _) (fun k hk => by
            have hk' : k = w.heap.size + 1 := hk
            subst hk'
            exact .inr (.inr ⟨by omega, _, hl3, rfl⟩))
        · rw [hrec]
          exact World.putObj_heap_same k3
        · intro k hk
          have hne : k ≠ w.heap.size + 1 := by omega
          exact (World.putObj_heap_other hne).trans ((hh3 k hk).trans ((World.putObj_heap_other hne).trans (hh1 k hk)))
        · have e1 := hk3.size
          have e2 := hk1.size
          simp at e1 ⊢
          omega
      | ret => exact hp.elim
      | exit id => exact hp.elim
      | goto t => exact hp.elim
      | panic ch => exact hp.elim
      | outgrown => exact hp.elim
    · rintro e W2 ⟨⟨v, rfl⟩, hi, hl, hd⟩
      have hr := run_endLoop (P := P) hl (by rw [hrec]; simp)
      rw [hrec] at hr
      refine ⟨none, _, hr, hdone _ _ (Nat.le_refl _) ?_ ((World.putObj_heap_other (by omega)).trans hd)⟩
      exact hI _ _ _ (fun k => k = w.heap.size + 1) hi ((Mv.refl (fun k => k = w.heap.size + 1) W2).putObj (.inl rfl) _) (fun k hk => by
        have hk' : k = w.heap.size + 1 := hk
        subst hk'
        exact .inr (.inr ⟨by omega, _, hl, rfl⟩))
end Go.Proofs.Ytaghnjkpanjioaa
