/- Values that agree with a partial assignment satisfy a problem exactly if they satisfy it fixed (no claim of its own). Conditions: as each theorem states. -/
import Derived.Test.YtbebdhjhlheboaaFixM
import Derived.Test.YtbebdhjhlheboaaSatP
namespace Go.Proofs.Ytbebdhjhlheboaa
open Go.ChangeShapes Go.WideShapes Go.ChangeAt Go.RowKit

/-- Values with those of a partial assignment put in. -/
def inV (u : Nat → Bool) (v : Nat → Int) (i : Nat) : Bool := if v i = 0 then u i else decide (0 < v i)
section
variable {u : Nat → Bool} {v c l : Nat → Int} {bd x : Int} {n k : Nat}
theorem st_free (h : stV v x = 0) : trueP (inV u v) x = trueP u x := by
  unfold stV at h
  unfold trueP
  split
  · rename_i h1
    rw [if_pos h1] at h
    exact if_pos h
  · rename_i h1
    rw [if_neg h1] at h
    rw [show inV u v (-x - 1).toNat = u (-x - 1).toNat from if_pos (by omega)]
theorem st_true (h : stV v x = 1) : trueP (inV u v) x = true := by
  unfold stV at h
  unfold trueP
  split
  · rename_i h1
    rw [if_pos h1] at h
    unfold inV
    rw [h]
    rfl
  · rename_i h1
    rw [if_neg h1] at h
    unfold inV
    rw [show v (-x - 1).toNat = -1 by omega]
    rfl
theorem st_false (h : stV v x = -1) : trueP (inV u v) x = false := by
  unfold stV at h
  unfold trueP
  split
  · rename_i h1
    rw [if_pos h1] at h
    unfold inV
    rw [h]
    rfl
  · rename_i h1
    rw [if_neg h1] at h
    unfold inV
    rw [show v (-x - 1).toNat = 1 by omega]
    rfl
/-- The sum over rows that are picked. -/
theorem sB_app {R : List (Int × Int)} {y : Int × Int} {P : Int → Bool} : sB (pkC (R ++ [y])) (pkL (R ++ [y])) P (R ++ [y]).length = sB (pkC R) (pkL R) P R.length + if P y.2 = true then y.1 else 0 := by
  have h1 : ∀ m, m ≤ R.length → sB (pkC (R ++ [y])) (pkL (R ++ [y])) P m = sB (pkC R) (pkL R) P m := by
    intro m
    induction m with
    | zero => intro _; rfl
    | succ m ih =>
      intro hm
      obtain ⟨a1, a2⟩ := pk_append (R := R) (x := y) (i := m) (by omega)
      rw [sB_suc, sB_suc, ih (by omega), a1, a2]
  obtain ⟨e1, e2⟩ := pk_last R y
  rw [List.length_append]
  show sB _ _ P (R.length + 1) = _
  rw [sB_suc, h1 _ (Nat.le_refl _), e1, e2]
  split <;> omega
theorem fix_sum (hst : ∀ i, i < n → -1 ≤ stV v (l i) ∧ stV v (l i) ≤ 1) : ∀ k, k ≤ n → sB c l (trueP (inV u v)) k + fxS c l bd v k = sB (pkC (fxR c l v k)) (pkL (fxR c l v k)) (trueP u) (fxR c l v k).length + bd := by
  intro k
  induction k with
  | zero => intro _; rfl
  | succ k ih =>
    intro hk
    have h0 := ih (by omega)
    obtain ⟨a, b⟩ := hst k (by omega)
    rcases (show stV v (l k) = 0 ∨ stV v (l k) = 1 ∨ stV v (l k) = -1 by omega) with e | e | e
    · rw [fxR_yes e, fxS_no (by omega), sB_app]
      have e1 := st_free (u := u) e
      rw [sB_suc, e1]
      dsimp only
      split <;> omega
    · rw [fxR_no (by omega), fxS_yes e, sB_yes (st_true e)]
      omega
    · rw [fxR_no (by omega), fxS_no (by omega), sB_no (st_false e)]
      exact h0
end
theorem pk_coef {c l : Nat → Int} {q : Nat → Bool} {n : Nat} (h : ∀ i, i < n → 1 ≤ c i ∧ c i ≤ 1000) : ∀ i, i < (pkR c l q n).length → 1 ≤ pkC (pkR c l q n) i ∧ pkC (pkR c l q n) i ≤ 1000 := fun i hi => by
  obtain ⟨j, hj, _, ej⟩ := pk_from (c := c) (l := l) (q := q) (n := n) ((pkR c l q n).getD i (0, 0)) (by
    rw [List.getD_eq_getElem?_getD, List.getElem?_eq_getElem hi]
    exact List.getElem_mem _)
  have e : pkC (pkR c l q n) i = c j := by unfold pkC; rw [ej]
  rw [e]
  exact h j hj
theorem fix_eval {x : Con} {v : Nat → Int} (u : Nat → Bool) (h : validB x.n x.c x.l x.bd = true) (hv : ∀ i, i < 12 → -1 ≤ v i ∧ v i ≤ 1) : evalV (fxCon v x).n (fxCon v x).c (fxCon v x).l (fxCon v x).bd 12 u = evalV x.n x.c x.l x.bd 12 (inV u v) := by
  have h12 := valid_le12 h
  have hk := fxCon_valid (v := v) h
  have hk12 := valid_le12 hk
  have e1 : evW x.c x.l (inV u v) x.n = sB x.c x.l (trueP (inV u v)) x.n := sumW_sB (by omega) (coef_of h)
  have e2 : evW (fxCon v x).c (fxCon v x).l u (fxCon v x).n = sB (fxCon v x).c (fxCon v x).l (trueP u) (fxCon v x).n := sumW_sB (by omega) (coef_of hk)
  rw [evalV_yes h, evalV_yes hk, e1, e2]
  have h3 := fix_sum (u := u) (c := x.c) (l := x.l) (bd := x.bd) (v := v) (n := x.n) (fun i hi => stV_bd (litAt h hi) hv) x.n (Nat.le_refl _)
  have h4 : 0 ≤ sB (fxCon v x).c (fxCon v x).l (trueP u) (fxCon v x).n := (sB_le (coef_of hk)).1
  have h5 : sB (fxCon v x).c (fxCon v x).l (trueP u) (fxCon v x).n = sB (pkC (fxR x.c x.l v x.n)) (pkL (fxR x.c x.l v x.n)) (trueP u) (fxR x.c x.l v x.n).length := rfl
  have h6 : (fxCon v x).bd = fxP (fxS x.c x.l x.bd v x.n) := rfl
  rw [h6]
  rw [h5] at h4 ⊢
  unfold fxP
  apply decide_eq_decide.2
  split <;> omega
theorem fix_allE {n : Nat} {p : Nat → Con} {v : Nat → Int} (u : Nat → Bool) (h : allV p n = true) (hv : ∀ i, i < 12 → -1 ≤ v i ∧ v i ≤ 1) : allE (fixK p v) u n = allE p (inV u v) n := by
  induction n with
  | zero => rfl
  | succ n ih =>
    unfold allE
    have h2 : validB (p n).n (p n).c (p n).l (p n).bd = true := allV_at h (Nat.lt_succ_self n)
    have h1 : allV p n = true := by
      unfold allV at h
      rw [Bool.and_eq_true] at h
      exact h.1
    rw [ih h1]
    congr 1
    exact fix_eval u h2 hv
theorem fix_prob {n m : Nat} {p : Nat → Con} {v : Nat → Int} (h : fixOk n p m v = true) : probB n (fixK p v) = true := by
  obtain ⟨h1, h2⟩ := fix_ok h
  have h3 := prob_V h1
  have : ∀ k, k ≤ n → allV (fixK p v) k = true := by
    intro k
    induction k with
    | zero => intro _; rfl
    | succ k ih =>
      intro hk
      unfold allV
      rw [ih (by omega), Bool.true_and]
      exact fxCon_valid (allV_at h3 (show k < n by omega))
  unfold probB
  rw [this n (Nat.le_refl _), Bool.true_and]
  exact decide_eq_true (prob_400 h1)
theorem inV_twice (u : Nat → Bool) (v : Nat → Int) : inV (inV u v) v = inV u v := funext fun i => by
  unfold inV
  split <;> rfl
end Go.Proofs.Ytbebdhjhlheboaa
