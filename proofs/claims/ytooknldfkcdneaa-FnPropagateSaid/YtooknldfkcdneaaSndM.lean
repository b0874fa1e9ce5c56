/- Propagation is sound: the values that satisfy a problem (no claim of its own). Conditions: as each theorem states. -/
import Derived.Test.YtooknldfkcdneaaUniM
namespace Go.Proofs.Ytooknldfkcdneaa
open Go.ChangeShapes Go.WideShapes Go.ChangeAt Go.RowKit

/-- Values as a partial assignment. -/
def tv (u : Nat → Bool) (i : Nat) : Int := if u i then 1 else -1
theorem tv_rng (u : Nat → Bool) : rng (tv u) := fun i _ => by unfold tv; split <;> omega
theorem stV_tv (u : Nat → Bool) (z : Int) : stV (tv u) z = if trueP u z then 1 else -1 := by
  unfold stV trueP tv
  split
  · rfl
  · cases u (-z - 1).toNat <;> rfl
theorem nf_tv (u : Nat → Bool) (z : Int) : nfP (tv u) z = trueP u z := by
  unfold nfP
  rw [stV_tv]
  cases trueP u z <;> rfl
theorem eval_fix {q : Con} (hq : okC q) (hn : q.n ≤ 1048576) {u : Nat → Bool} (h : evalV q.n q.c q.l q.bd 12 u = true) : fixC q (tv u) := by
  have hv : validB q.n q.c q.l q.bd = true := hq
  rw [evalV_yes hv, decide_eq_true_eq] at h
  have h1 : evW q.c q.l u q.n = sB q.c q.l (trueP u) q.n := sumW_sB hn (coef_of hv)
  rw [h1] at h
  have h2 : sB q.c q.l (nfP (tv u)) q.n = sB q.c q.l (trueP u) q.n := sB_congr (nf_tv u) q.n
  refine ⟨?_, ?_⟩
  · unfold slkC slk
    rw [h2]
    omega
  · rw [List.eq_nil_iff_forall_not_mem]
    intro z hz
    obtain ⟨j, _, _, h0, _⟩ := imL_mem.1 hz
    rw [stV_tv] at h0
    split at h0 <;> omega
theorem sat_fix {k : Nat} {p : Nat → Con} (hn : ∀ i, i < k → (p i).n ≤ 1048576) {u : Nat → Bool} (h : satB k p 12 u = true) : ∀ i, i < k → fixC (p i) (tv u) := by
  unfold satB at h
  simp only [Bool.and_eq_true] at h
  obtain ⟨h1, _, h2⟩ := h
  have hok := (prob_ok h1).2
  have key : ∀ m, allE p u m = true → ∀ i, i < m → evalV (p i).n (p i).c (p i).l (p i).bd 12 u = true := by
    intro m
    induction m with
    | zero => intro _ i hi; omega
    | succ m ih =>
      intro ha i hi
      unfold allE at ha
      rw [Bool.and_eq_true] at ha
      by_cases e : i = m
      · subst e; exact ha.2
      · exact ih ha.1 i (by omega)
  exact fun i hi => eval_fix (hok i hi) (hn i hi) (key k h2 i hi)
theorem ag_ext {v : Nat → Int} (hv : rng v) {u : Nat → Bool} : agT v u 12 = true ↔ extI v (tv u) := by
  have key : ∀ m, m ≤ 12 → (agT v u m = true ↔ ∀ i, i < m → v i ≠ 0 → tv u i = v i) := by
    intro m
    induction m with
    | zero => intro _; exact ⟨fun _ i hi => by omega, fun _ => rfl⟩
    | succ m ih =>
      intro hm
      have hi := ih (by omega)
      obtain ⟨a, b⟩ := hv m (by omega)
      have h1 : agP (v m) (u m) = true ↔ (v m ≠ 0 → tv u m = v m) := by
        rcases (show v m = -1 ∨ v m = 0 ∨ v m = 1 by omega) with e | e | e <;> rw [e] <;> unfold agP tv <;> cases u m <;> simp
      unfold agT
      rw [Bool.and_eq_true, hi, h1]
      constructor
      · rintro ⟨x, y⟩ i hi
        by_cases e : i = m
        · subst e; exact y
        · exact x i (by omega)
      · intro x
        exact ⟨fun i hi => x i (by omega), x m (by omega)⟩
  exact key 12 (Nat.le_refl _)
/-- Values that satisfy the problem and agree with the beginning agree with the end, and no constraint is violated. -/
theorem prop_sound {k : Nat} {p : Nat → Con} (hn : ∀ i, i < k → (p i).n ≤ 1048576) (hok : ∀ i, i < k → okC (p i)) {v w : Nat → Int} {r : Int} (h : Runs p k 0 v w r) (hv : rng v) (hw : rng w) {u : Nat → Bool} (h1 : agT v u 12 = true) (h2 : satB k p 12 u = true) : r = -1 ∧ agT w u 12 = true := by
  obtain ⟨a, b⟩ := h.under hok (tv_rng u) (sat_fix hn h2) ((ag_ext hv).1 h1)
  exact ⟨b, (ag_ext hw).2 a⟩
theorem ext_ag {n nv : Nat} {v : Nat → Int} {u : Nat → Bool} (h : extB n v nv u = true) : agT v u 12 = true := by
  unfold extB at h
  simp only [Bool.and_eq_true] at h
  exact h.2.2
end Go.Proofs.Ytooknldfkcdneaa
