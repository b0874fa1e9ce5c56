/- The program's propagate (no claim of its own). Conditions: as each theorem states. -/
import Derived.Test.YtooknldfkcdneaaPsB
import Derived.Test.YtooknldfkcdneaaExtC
namespace Go.Proofs.Ytooknldfkcdneaa
open Go.Conc Go.ChangeShapes Go.WideShapes Go.ChangeAt Go.RowKit Go.Shelf

theorem tl_bd {v : Nat → Int} (hv : rng v) {k : Nat} (hk : k ≤ 12) : ∀ x ∈ tl v k, -(k : Int) ≤ x ∧ x ≤ (k : Int) := by
  induction k with
  | zero => intro x hx; cases hx
  | succ k ih =>
    intro x hx
    have h3 : v k = -1 ∨ v k = 0 ∨ v k = 1 := by have := hv k (by omega); omega
    rcases h3 with e | e | e
    · rw [tl_neg e, List.mem_append, List.mem_singleton] at hx
      rcases hx with h | h
      · have := ih (by omega) x h; omega
      · omega
    · rw [tl_no e] at hx
      have := ih (by omega) x hx; omega
    · rw [tl_yes e, List.mem_append, List.mem_singleton] at hx
      rcases hx with h | h
      · have := ih (by omega) x h; omega
      · omega
theorem tl_pw {v : Nat → Int} (hv : rng v) {k : Nat} (hk : k ≤ 12) : (tl v k).Pairwise (fun a b => apartL b a) := by
  induction k with
  | zero => exact List.Pairwise.nil
  | succ k ih =>
    have h3 : v k = -1 ∨ v k = 0 ∨ v k = 1 := by have := hv k (by omega); omega
    have hb := tl_bd hv (k := k) (by omega)
    have key : ∀ y : Int, (y = (k : Int) + 1 ∨ y = -((k : Int) + 1)) → (tl v k ++ [y]).Pairwise (fun a b => apartL b a) := fun y hy => by
      rw [List.pairwise_append]
      refine ⟨ih (by omega), List.pairwise_singleton _ _, fun a ha b hb2 => ?_⟩
      rw [List.mem_singleton] at hb2
      subst hb2
      have := hb a ha
      unfold apartL
      omega
    rcases h3 with e | e | e
    · rw [tl_neg e]; exact key _ (.inr rfl)
    · rw [tl_no e]; exact ih (by omega)
    · rw [tl_yes e]; exact key _ (.inl rfl)
theorem stV_z0 (y : Int) : stV z0 y = 0 := by
  unfold stV z0
  split <;> rfl
theorem tl_fr {v : Nat → Int} (hv : rng v) : frL z0 (tl v 12) := ⟨fun y hy => ⟨tl_lit hv (Nat.le_refl _) y hy, stV_z0 y⟩, tl_pw hv (Nat.le_refl _)⟩
theorem tl_asg {v : Nat → Int} (hv : rng v) {k : Nat} (hk : k ≤ 12) : asgL z0 (tl v k) = fun i => if i < k then v i else 0 := by
  induction k with
  | zero => funext i; rfl
  | succ k ih =>
    have ih := ih (by omega)
    have h3 : v k = -1 ∨ v k = 0 ∨ v k = 1 := by have := hv k (by omega); omega
    funext i
    have hlt : ∀ a : Int, (if i < k + 1 then v i else 0) = if i = k then v k else (if i < k then v i else 0) := fun _ => by
      by_cases e : i = k
      · subst e; rw [if_pos rfl, if_pos (by omega)]
      · rw [if_neg e]
        by_cases c : i < k
        · rw [if_pos c, if_pos (by omega)]
        · rw [if_neg c, if_neg (by omega)]
    rw [hlt 0]
    rcases h3 with e | e | e
    · rw [tl_neg e, asgL_snoc, ih]
      unfold asg
      rw [if_neg (by omega), show (- -((k : Int) + 1) - 1).toNat = k by omega, e]
    · rw [tl_no e, ih, e]
      by_cases c : i = k
      · subst c; rw [if_pos rfl]; exact if_neg (by omega)
      · rw [if_neg c]
    · rw [tl_yes e, asgL_snoc, ih]
      unfold asg
      rw [if_pos (by omega), show (((k : Int) + 1) - 1).toNat = k by omega, e]
theorem tl_all {v : Nat → Int} (hv : rng v) (h0 : ∀ i, 12 ≤ i → v i = 0) : asgL z0 (tl v 12) = v := by
  rw [tl_asg hv (Nat.le_refl _)]
  funext i
  by_cases c : i < 12
  · rw [if_pos c]
  · rw [if_neg c, h0 i (by omega)]
theorem pg_slacks {w : World} {B m : Nat} {lv : Value} {sl : Nat → Int} {uv : Nat → Value} (h : PgAt w B lv m sl uv) (hm : m ≤ 1400) : ∃ SL : Array Value, SL.size = 1400 ∧ (∀ i, i < m → SL[i]? = some (.int .i64 (sl i))) ∧ (∀ (k : Nat) (u : Value), SL[k]? = some u → u.oneCell' = true) ∧ w.rangeAt B 1 SL.toList ∧ (Try.prog.info? 99).map (·.size) = some SL.toList.length := by
  obtain ⟨cs, hh, hs, _, h2, _, h4⟩ := h
  have hr := World.rangeAt_of_block hh 1 1400
  have hsz : (cs.extract 1 (1 + 1400)).size = 1400 := by rw [Array.size_extract]; omega
  have hg : ∀ k, k < 1400 → (cs.extract 1 (1 + 1400))[k]? = cs[1 + k]? := fun k hk => by
    rw [Array.getElem?_extract, if_pos (by omega)]
  refine ⟨cs.extract 1 (1 + 1400), hsz, fun i hi => (hg i (by omega)).trans (h2 i hi), fun k u hk => ?_, ?_⟩
  · have hlt : k < 1400 := by
      rw [← hsz]
      exact (Array.getElem?_eq_some_iff.1 hk).1
    obtain ⟨z, e1, e2⟩ := h4 k hlt
    rw [hg k hlt, e1] at hk
    cases hk
    exact e2
  · exact ⟨hr, by rw [Array.length_toList, hsz]; kernel_rfl⟩
theorem load12 (W : World) (b o : Nat) (v : Nat → Int) (h : W.rangeAt b o (cl12 v)) : (Instr.loadAt 64 (.pointer (some ⟨b, o, none⟩))).run Try.prog W = .ok (arrV v) W :=
  run_loadAt_mid (P := Try.prog) W b o 64 (cl12 v) _ h Try.underlying64 rfl (by kernel_rfl)
theorem start12 (w : World) (v : Nat → Int) (T : TypeId) : Below w.heap.size w ((w.alloc (.cells (cells12 v) T)).alloc (.cells (cells12 fun _ => 0) T)) ∧ ((w.alloc (.cells (cells12 v) T)).alloc (.cells (cells12 fun _ => 0) T)).rangeAt w.heap.size 0 (cl12 v) ∧ ((w.alloc (.cells (cells12 v) T)).alloc (.cells (cells12 fun _ => 0) T)).heap[w.heap.size + 1]? = some (.cells (cells12 fun _ => 0) T (0, 0)) ∧ ((w.alloc (.cells (cells12 v) T)).alloc (.cells (cells12 fun _ => 0) T)).heap.size = w.heap.size + 2 := by
  have h1 := heap_alloc_new w (.cells (cells12 v) T)
  have hb := bl_alloc (Below.refl _ (w.alloc (.cells (cells12 v) T))) (.cells (cells12 fun _ => 0) T)
  have h2 := heap_alloc_new (w.alloc (.cells (cells12 v) T)) (.cells (cells12 fun _ => 0) T)
  have hz : (w.alloc (.cells (cells12 v) T)).heap.size = w.heap.size + 1 := by simp
  refine ⟨bl_alloc (bl_alloc (Below.refl _ _) _) _, fun j u hu => ?_, by rw [hz] at h2; exact h2, by simp⟩
  obtain ⟨hj, rfl⟩ := cl12_at v j u hu
  have h3 := (hb.block w.heap.size (by omega)).trans h1
  rw [Nat.zero_add]
  exact (cell_of_row _ w.heap.size j _ _ _ h3).trans (cells12_at v hj)
end Go.Proofs.Ytooknldfkcdneaa
