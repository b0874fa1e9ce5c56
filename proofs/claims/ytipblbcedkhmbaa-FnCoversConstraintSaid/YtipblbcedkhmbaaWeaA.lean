/- What weakening leaves of a constraint's terms (no claim of its own). Conditions: as each theorem states. -/
import Derived.Test.YtipblbcedkhmbaaInfA
import Derived.Test.YtipblbcedkhmbaaCloA
namespace Go.Proofs.Ytipblbcedkhmbaa
open Go.ChangeShapes Go.WideShapes Go.ChangeAt Go.RowKit

/-- The rows as functions of the place. -/
def rC (R : List (Int × Int)) (i : Nat) : Int := (R.getD i (0, 0)).1
def rL (R : List (Int × Int)) (i : Nat) : Int := (R.getD i (0, 0)).2
def capB (b : Int) : Int := if b < 0 then 0 else b

/-- The terms among the first k whose variable is not v; the bound behind them. -/
def kept (c l : Nat → Int) (v : Int) : Nat → List (Int × Int)
  | 0 => []
  | k + 1 => if ab (l k) = v then kept c l v k else kept c l v k ++ [(c k, l k)]
def wkB (c l : Nat → Int) (bd v : Int) : Nat → Int
  | 0 => bd
  | k + 1 => if ab (l k) = v then wkB c l bd v k - c k else wkB c l bd v k
section
variable {c l : Nat → Int} {v bd : Int}
theorem kept_no {k : Nat} (h : ab (l k) = v) : kept c l v (k + 1) = kept c l v k := if_pos h
theorem kept_yes {k : Nat} (h : ab (l k) ≠ v) : kept c l v (k + 1) = kept c l v k ++ [(c k, l k)] := if_neg h
theorem wkB_yes {k : Nat} (h : ab (l k) = v) : wkB c l bd v (k + 1) = wkB c l bd v k - c k := if_pos h
theorem wkB_no {k : Nat} (h : ab (l k) ≠ v) : wkB c l bd v (k + 1) = wkB c l bd v k := if_neg h
theorem kept_le (k : Nat) : (kept c l v k).length ≤ k := by
  induction k with
  | zero => exact Nat.le_refl _
  | succ k ih =>
    unfold kept
    split
    · omega
    · simp; omega
theorem kept_prefix {k n : Nat} (h : k ≤ n) : kept c l v k <+: kept c l v n := by
  induction n with
  | zero =>
    obtain rfl : k = 0 := by omega
    exact List.prefix_refl _
  | succ n ih =>
    by_cases e : k = n + 1
    · subst e; exact List.prefix_refl _
    · refine (ih (by omega)).trans ?_
      show kept c l v n <+: (if ab (l n) = v then kept c l v n else kept c l v n ++ [(c n, l n)])
      split
      · exact List.prefix_refl _
      · exact ⟨[(c n, l n)], rfl⟩
theorem kept_at {k n : Nat} (hk : k < n) (h : ab (l k) ≠ v) : rC (kept c l v n) (kept c l v k).length = c k ∧ rL (kept c l v n) (kept c l v k).length = l k := by
  obtain ⟨t, ht⟩ := kept_prefix (c := c) (l := l) (v := v) (show k + 1 ≤ n from hk)
  rw [kept_yes h] at ht
  unfold rC rL
  rw [← ht]
  simp [List.getD]
theorem kept_from {n : Nat} : ∀ x ∈ kept c l v n, ∃ j, j < n ∧ x = (c j, l j) := by
  induction n with
  | zero => intro x hx; cases hx
  | succ n ih =>
    intro x hx
    unfold kept at hx
    split at hx
    · obtain ⟨j, hj, e⟩ := ih x hx
      exact ⟨j, by omega, e⟩
    · rcases List.mem_append.1 hx with h | h
      · obtain ⟨j, hj, e⟩ := ih x h
        exact ⟨j, by omega, e⟩
      · exact ⟨n, by omega, by simpa using h⟩
theorem wkB_le {n : Nat} (hv : ∀ i, i < n → 1 ≤ c i ∧ c i ≤ 1000) : wkB c l bd v n ≤ bd ∧ bd - 1000 * (n : Int) ≤ wkB c l bd v n := by
  induction n with
  | zero => simp [wkB]
  | succ n ih =>
    have h1 := ih (fun i hi => hv i (by omega))
    have h2 := hv n (by omega)
    unfold wkB
    split <;> omega
theorem capB_step {b x : Int} (hx : 0 ≤ x) : (if capB b - x < 0 then 0 else capB b - x) = capB (b - x) := by
  unfold capB
  by_cases h1 : b < 0
  · rw [if_pos h1, if_pos (show b - x < 0 by omega)]
    split <;> omega
  · rw [if_neg h1]
end

/-- A list of rows that is valid, row by row. -/
theorem rC_append {R : List (Int × Int)} {x : Int × Int} {i : Nat} (hi : i < R.length) : rC (R ++ [x]) i = rC R i ∧ rL (R ++ [x]) i = rL R i := by
  simp [rC, rL, List.getD, List.getElem?_append_left hi]
theorem rC_last (R : List (Int × Int)) (x : Int × Int) : rC (R ++ [x]) R.length = x.1 ∧ rL (R ++ [x]) R.length = x.2 := by
  simp [rC, rL, List.getD]
theorem vtB_congr {c l c' l' : Nat → Int} {n : Nat} (h : ∀ i, i < n → c i = c' i ∧ l i = l' i) : vtB c l n = vtB c' l' n := by
  induction n with
  | zero => rfl
  | succ n ih =>
    unfold vtB
    rw [ih (fun i hi => h i (by omega))]
    congr 1
    have h1 := h n (by omega)
    cases n with
    | zero => simp [okAt, h1]
    | succ m =>
      have h2 := h m (by omega)
      simp [okAt, h1, h2]
theorem vtB_mono {c l : Nat → Int} {n : Nat} (h : vtB c l n = true) : ∀ j i, i < j → j < n → ab (l i) < ab (l j) := by
  intro j
  induction j with
  | zero => intro i hi; omega
  | succ j ih =>
    intro i hi hj
    have h1 := vtB_at h hj
    have h2 : ab (l j) < ab (l (j + 1)) := by simp [okAt] at h1; exact h1.2
    by_cases e : i = j
    · subst e; exact h2
    · have := ih i (by omega) (by omega)
      omega
theorem kept_valid {c l : Nat → Int} {v : Int} {n : Nat} (h : vtB c l n = true) : ∀ k, k ≤ n → vtB (rC (kept c l v k)) (rL (kept c l v k)) (kept c l v k).length = true := by
  intro k
  induction k with
  | zero => intro _; rfl
  | succ k ih =>
    intro hk
    have h0 := ih (by omega)
    by_cases e : ab (l k) = v
    · rw [kept_no e]; exact h0
    · rw [kept_yes e, List.length_append]
      show vtB _ _ ((kept c l v k).length + 1) = true
      unfold vtB
      rw [Bool.and_eq_true]
      refine ⟨(vtB_congr (fun i hi => rC_append hi)).trans h0, ?_⟩
      obtain ⟨e1, e2⟩ := rC_last (kept c l v k) (c k, l k)
      have hok := vtB_at h (show k < n by omega)
      have hco := okAt_coef hok
      have hli := okAt_lit hok
      cases hm : (kept c l v k).length with
      | zero =>
        rw [hm] at e1 e2
        simp only [okAt, e1, e2, hli, Bool.true_and]
        simp
        omega
      | succ m =>
        rw [hm] at e1 e2
        obtain ⟨a1, a2⟩ := rC_append (R := kept c l v k) (x := (c k, l k)) (i := m) (by omega)
        obtain ⟨j, hj, ej⟩ := kept_from ((kept c l v k).getD m (0, 0)) (by
          rw [List.getD_eq_getElem?_getD, List.getElem?_eq_getElem (by omega)]
          exact List.getElem_mem _)
        have e3 : rL (kept c l v k) m = l j := by unfold rL; rw [ej]
        have := vtB_mono h k j hj (by omega)
        simp only [okAt, e1, e2, a2, e3, hli, Bool.true_and, Bool.and_eq_true, decide_eq_true_eq]
        omega

/-- Whether the arguments of a weakening are as the rule describes them. -/
def weaR (n : Nat) (c l : Nat → Int) (bd v : Int) : Bool := validB n c l bd && (decide (1 ≤ v) && decide (v ≤ 12))
theorem weaR_iff {n : Nat} {c l : Nat → Int} {bd v : Int} : weaR n c l bd v = true ↔ validB n c l bd = true ∧ 1 ≤ v ∧ v ≤ 12 := by simp [weaR]
theorem kept_ok {n : Nat} {c l : Nat → Int} {bd : Int} (v : Int) (h : validB n c l bd = true) : validB (kept c l v n).length (rC (kept c l v n)) (rL (kept c l v n)) (capB (wkB c l bd v n)) = true := by
  have h1 := valid_bd h
  have h2 := wkB_le (c := c) (l := l) (v := v) (bd := bd) (n := n) (fun i hi => valid_coef h hi)
  unfold validB at h ⊢
  rw [Bool.and_eq_true] at h ⊢
  refine ⟨kept_valid h.1 n (Nat.le_refl _), ?_⟩
  have : 0 ≤ capB (wkB c l bd v n) ∧ capB (wkB c l bd v n) ≤ 20000 := by unfold capB; split <;> omega
  simp
  exact this
theorem wkB_cap_step {n k : Nat} {c l : Nat → Int} {bd v : Int} (hk : k < n) (h : validB n c l bd = true) (e : ab (l k) = v) :
    (if capB (wkB c l bd v k) - c k < 0 then 0 else capB (wkB c l bd v k) - c k) = capB (wkB c l bd v (k + 1)) := by
  rw [wkB_yes e]
  exact capB_step (by have := valid_coef h hk; omega)
end Go.Proofs.Ytipblbcedkhmbaa
