/- The rounds of a propagation (no claim of its own). Conditions: as each theorem states. -/
import Derived.Test.YtooknldfkcdneaaPsG
import Derived.Test.YtooknldfkcdneaaPrgT
import Derived.Test.YtooknldfkcdneaaChnA
import Derived.Conc.Token
namespace Go.Proofs.Ytooknldfkcdneaa
open Go.Conc Go.ChangeShapes Go.WideShapes Go.ChangeAt Go.RowKit Go.Shelf

theorem frL_zero {v : Nat → Int} {L : List Int} (h : frL v L) {k : Nat} (hk : k < L.length) : stV (asgL v (L.take k)) (gI L k) = 0 := by
  rw [gI_at hk]
  induction L generalizing v k with
  | nil => simp at hk
  | cons z zs ih =>
    obtain ⟨_, h0, ht⟩ := frL_head h
    cases k with
    | zero => exact h0
    | succ k => exact ih ht (by simpa using hk)
/-- How far behind i the queue has j. -/
def dis (m i j : Nat) : Nat := if i ≤ j then j - i else j + m - i
structure QI (w : World) (S B C m : Nat) (p : Nat → Con) (v0 : Nat → Int) (wx : World) (st i : Nat) (v : Nat → Int) (buf : Array Value) : Prop where
  im : i < m ∨ m = 0
  sm : st ≤ m
  rn : rng v
  ch : ∃ s r, wx.heap[C]? = some (.chan m buf false s r false)
  ps : PsAt wx S B v m (fun i => slkC (p i) v)
  gr : w.grownBy wx (some S)
  fx : ∀ j, j < m → m ≤ dis m i j + st → fixC (p j) v
  ru : ∀ V r, Runs p m i v V r → Runs p m 0 v0 V r
section
variable {w wx wy : World} {S B C m st i : Nat} {p : Nat → Con} {v0 v : Nat → Int} {buf buf' : Array Value}
theorem QI.chan (h : QI w S B C m p v0 wx st i v buf) (hC : w.heap.size ≤ C) (hS : S < w.heap.size) (buf' : Array Value) (s r : Nat) : QI w S B C m p v0 (wx.setChan C m buf' false s r false) st i v buf' := by
  obtain ⟨s0, r0, hch⟩ := h.ch
  exact ⟨h.im, h.sm, h.rn, ⟨s, r, heap_setChan_self wx hch _ _ _ _ _ _⟩, h.ps.same (heap_setChan_ne _ _ _ _ _ _ _ (by omega)), ⟨h.gr.os, h.gr.tape, h.gr.output, by simpa [World.setChan] using h.gr.size, fun k hk hne => by rw [heap_setChan_ne _ _ _ _ _ _ _ (by omega)]; exact h.gr.block k hk hne⟩, h.fx, h.ru⟩
theorem QI.below (h : QI w S B C m p v0 wx st i v buf) (hb : Below wx.heap.size wx wy) : QI w S B C m p v0 wy st i v buf := by
  obtain ⟨s0, r0, hch⟩ := h.ch
  exact ⟨h.im, h.sm, h.rn, ⟨s0, r0, by rw [hb.block C (Array.getElem?_eq_some_iff.1 hch).1]; exact hch⟩, h.ps.below hb, ⟨hb.os.trans h.gr.os, hb.tape.trans h.gr.tape, hb.output.trans h.gr.output, Nat.le_trans h.gr.size hb.size, fun k hk hne => by rw [hb.block k (Nat.lt_of_lt_of_le hk h.gr.size)]; exact h.gr.block k hk hne⟩, h.fx, h.ru⟩
theorem QI.next (h : QI w S B C m p v0 wx st i v buf) (hi : i < m) (hst : st < m) (hok : okC (p i)) (hs : ¬ slkC (p i) v < 0) (hp : PsAt wy S B (asgL v (impC (p i) v)) m (fun j => slkC (p j) (asgL v (impC (p i) v)))) (hg : w.grownBy wy (some S)) (hch : ∃ s r, wy.heap[C]? = some (.chan m buf' false s r false)) :
    QI w S B C m p v0 wy ((if 0 < (impC (p i) v).length then 0 else st) + 1) (nxt m i) (asgL v (impC (p i) v)) buf' := by
  refine ⟨.inl (by unfold nxt; split <;> omega), by split <;> omega, asgL_rng h.rn _, hch, hp, hg, fun j hj hd => ?_, fun V r hr => h.ru V r (.step i v V r hi hs hr)⟩
  by_cases hL : 0 < (impC (p i) v).length
  · rw [if_pos hL] at hd
    have e : j = i := by
      unfold dis nxt at hd
      split at hd <;> split at hd <;> omega
    subst e
    exact fix_step hok hs
  · rw [if_neg hL] at hd
    have e : impC (p i) v = [] := List.eq_nil_of_length_eq_zero (by omega)
    by_cases e2 : j = i
    · subst e2
      exact fix_step hok hs
    · rw [e]
      refine h.fx j hj ?_
      unfold dis nxt at hd
      unfold dis
      split at hd <;> split at hd <;> split <;> omega
theorem QI.fin (h : QI w S B C m p v0 wx m i v buf) : Runs p m 0 v0 v (-1) := h.ru _ _ (.fin i v fun j hj => h.fx j hj (by omega))
theorem QI.vio (h : QI w S B C m p v0 wx st i v buf) (hi : i < m) (hs : slkC (p i) v < 0) : Runs p m 0 v0 v (i : Nat) := h.ru _ _ (.vio i v hi hs)
end
theorem q_less {v : Nat → Int} {L : List Int} (hf : frL v L) {st m : Nat} (hst : st < m) : una (asgL v L) 12 * (m + 1) + (m - ((if 0 < L.length then 0 else st) + 1)) < una v 12 * (m + 1) + (m - st) := by
  have h := una_list hf
  by_cases hL : 0 < L.length
  · rw [if_pos hL, ← h]
    obtain ⟨k, hk⟩ : ∃ k, L.length = k + 1 := ⟨L.length - 1, by omega⟩
    rw [hk, show una (asgL v L) 12 + (k + 1) = (una (asgL v L) 12 + 1) + k by omega, Nat.add_mul, Nat.add_mul]
    have := Nat.zero_le (k * (m + 1))
    omega
  · rw [if_neg hL, show una v 12 = una (asgL v L) 12 by omega]
    omega
theorem heap_kept {w w' : World} {S C : Nat} {o : Obj} (hg : w.grownBy w' (some S)) (h : w.heap[C]? = some o) (hS : S ≠ C) : w'.heap[C]? = some o := by
  rw [hg.block C (Array.getElem?_eq_some_iff.1 h).1 (fun e => hS (by injection e with e; exact e.symm))]
  exact h
theorem row_cells {w : World} {B n cap : Nat} {A : Option Addr} {T : TypeId} {xs : List Value} (h : w.ownsRow B T 2 (.slice A n cap) n xs) {i : Nat} (hi : i < n) : ∃ g, A = some ⟨g, 0, none⟩ ∧ ∀ k u, k < n * 2 → xs[k]? = some u → w.cell? ⟨g, k, none⟩ = some u := by
  rcases h.2 with ⟨_, hz⟩ | ⟨g, cap, cur, e, hg, hh, hnc, _, hsz, htk⟩
  · omega
  · cases e
    refine ⟨g, rfl, fun k u hk hu => ?_⟩
    rw [← htk, List.getElem?_take_of_lt (by omega)] at hu
    exact (cell_of_row w g _ cur _ _ hh).trans (by simpa using hu)
theorem putS_self (ts : Array Value) (slots : List Nat) : ts = putS ts slots (fun k => ts.getD k undef) := by
  have h : ∀ k, ts.setIfInBounds k (ts.getD k undef) = ts := fun k => by
    apply Array.ext
    · simp
    · intro i h1 h2
      rw [Array.getElem_setIfInBounds]
      split
      · rename_i e
        subst e
        simp [Array.getD, h2]
      · rfl
  unfold putS
  induction slots with
  | nil => rfl
  | cons k ks ih =>
    rw [List.foldl_cons, h]
    exact ih
end Go.Proofs.Ytooknldfkcdneaa
