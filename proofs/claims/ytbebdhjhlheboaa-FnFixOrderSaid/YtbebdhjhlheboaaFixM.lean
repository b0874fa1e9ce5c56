/- Problems with the variables of a partial assignment replaced by their values: plain facts (no claim of its own). Conditions: as each theorem states. -/
import Derived.Test.YtbebdhjhlheboaaSubM
import Derived.Test.YtbebdhjhlheboaaParA
namespace Go.Proofs.Ytbebdhjhlheboaa
open Go.ChangeShapes Go.WideShapes Go.ChangeAt Go.RowKit

/-- The chosen ones among the first k terms. -/
def pkR (c l : Nat → Int) (q : Nat → Bool) : Nat → List (Int × Int)
  | 0 => []
  | k + 1 => if q k = true then pkR c l q k ++ [(c k, l k)] else pkR c l q k
def pkC (R : List (Int × Int)) (i : Nat) : Int := (R.getD i (0, 0)).1
def pkL (R : List (Int × Int)) (i : Nat) : Int := (R.getD i (0, 0)).2
section
variable {c l : Nat → Int} {q : Nat → Bool} {n k : Nat}
theorem pk_yes (h : q k = true) : pkR c l q (k + 1) = pkR c l q k ++ [(c k, l k)] := if_pos h
theorem pk_no (h : q k = false) : pkR c l q (k + 1) = pkR c l q k := if_neg (by rw [h]; decide)
theorem pk_le (k : Nat) : (pkR c l q k).length ≤ k := by
  induction k with
  | zero => exact Nat.le_refl _
  | succ k ih =>
    unfold pkR
    split
    · simp; omega
    · omega
theorem pk_prefix {k n : Nat} (h : k ≤ n) : pkR c l q k <+: pkR c l q n := by
  induction n with
  | zero =>
    obtain rfl : k = 0 := by omega
    exact List.prefix_refl _
  | succ n ih =>
    by_cases e : k = n + 1
    · subst e; exact List.prefix_refl _
    · refine (ih (by omega)).trans ?_
      show pkR c l q n <+: (if q n = true then pkR c l q n ++ [(c n, l n)] else pkR c l q n)
      split
      · exact ⟨[(c n, l n)], rfl⟩
      · exact List.prefix_refl _
theorem pk_at (hk : k < n) (h : q k = true) : pkC (pkR c l q n) (pkR c l q k).length = c k ∧ pkL (pkR c l q n) (pkR c l q k).length = l k := by
  obtain ⟨t, ht⟩ := pk_prefix (c := c) (l := l) (q := q) (show k + 1 ≤ n from hk)
  rw [pk_yes h] at ht
  unfold pkC pkL
  rw [← ht]
  simp [List.getD]
theorem pk_from : ∀ x ∈ pkR c l q n, ∃ j, j < n ∧ q j = true ∧ x = (c j, l j) := by
  induction n with
  | zero => intro x hx; cases hx
  | succ n ih =>
    intro x hx
    unfold pkR at hx
    split at hx
    · rcases List.mem_append.1 hx with h | h
      · obtain ⟨j, hj, e⟩ := ih x h
        exact ⟨j, by omega, e⟩
      · rename_i h1
        exact ⟨n, by omega, h1, by simpa using h⟩
    · obtain ⟨j, hj, e⟩ := ih x hx
      exact ⟨j, by omega, e⟩
theorem pk_append {R : List (Int × Int)} {x : Int × Int} {i : Nat} (hi : i < R.length) : pkC (R ++ [x]) i = pkC R i ∧ pkL (R ++ [x]) i = pkL R i := by
  simp [pkC, pkL, List.getD, List.getElem?_append_left hi]
theorem pk_last (R : List (Int × Int)) (x : Int × Int) : pkC (R ++ [x]) R.length = x.1 ∧ pkL (R ++ [x]) R.length = x.2 := by
  simp [pkC, pkL, List.getD]
theorem vt_congr {c l c' l' : Nat → Int} {n : Nat} (h : ∀ i, i < n → c i = c' i ∧ l i = l' i) : vtB c l n = vtB c' l' n := by
  induction n with
  | zero => rfl
  | succ n ih =>
    unfold vtB
    rw [ih (fun i hi => h i (by omega))]
    congr 1
    have h1 := h n (by omega)
    cases n with
    | zero => simp [okAt, h1]
    | succ m =>
      have h2 := h m (by omega)
      simp [okAt, h1, h2]
theorem vt_rise {c l : Nat → Int} {n : Nat} (h : vtB c l n = true) : ∀ j i, i < j → j < n → ab (l i) < ab (l j) := by
  intro j
  induction j with
  | zero => intro i hi; omega
  | succ j ih =>
    intro i hi hj
    have h1 := vtB_at h hj
    have h2 : ab (l j) < ab (l (j + 1)) := by simp [okAt] at h1; exact h1.2
    by_cases e : i = j
    · subst e; exact h2
    · have := ih i (by omega) (by omega)
      omega
theorem pk_valid (h : vtB c l n = true) : ∀ k, k ≤ n → vtB (pkC (pkR c l q k)) (pkL (pkR c l q k)) (pkR c l q k).length = true := by
  intro k
  induction k with
  | zero => intro _; rfl
  | succ k ih =>
    intro hk
    have h0 := ih (by omega)
    cases e : q k with
    | false => rw [pk_no e]; exact h0
    | true =>
      rw [pk_yes e, List.length_append]
      show vtB _ _ ((pkR c l q k).length + 1) = true
      unfold vtB
      rw [Bool.and_eq_true]
      refine ⟨(vt_congr (fun i hi => pk_append hi)).trans h0, ?_⟩
      obtain ⟨e1, e2⟩ := pk_last (pkR c l q k) (c k, l k)
      have hok := vtB_at h (show k < n by omega)
      have hco := okAt_coef hok
      have hli := okAt_lit hok
      cases hm : (pkR c l q k).length with
      | zero =>
        rw [hm] at e1 e2
        simp only [okAt, e1, e2, hli, Bool.true_and]
        simp
        omega
      | succ m =>
        rw [hm] at e1 e2
        obtain ⟨a1, a2⟩ := pk_append (R := pkR c l q k) (x := (c k, l k)) (i := m) (by omega)
        obtain ⟨j, hj, _, ej⟩ := pk_from ((pkR c l q k).getD m (0, 0)) (by
          rw [List.getD_eq_getElem?_getD, List.getElem?_eq_getElem (by omega)]
          exact List.getElem_mem _)
        have e3 : pkL (pkR c l q k) m = l j := by unfold pkL; rw [ej]
        have := vt_rise h k j hj (by omega)
        simp only [okAt, e1, e2, a2, e3, hli, Bool.true_and, Bool.and_eq_true, decide_eq_true_eq]
        omega
end

theorem sB_suc (c l : Nat → Int) (P : Int → Bool) (k : Nat) : sB c l P (k + 1) = if P (l k) = true then sB c l P k + c k else sB c l P k := rfl
/-- Which terms stay; the bound behind the first k; the bound, at least 0. -/
def fxQ (l : Nat → Int) (v : Nat → Int) (k : Nat) : Bool := decide (stV v (l k) = 0)
def fxS (c l : Nat → Int) (bd : Int) (v : Nat → Int) : Nat → Int
  | 0 => bd
  | k + 1 => if stV v (l k) = 1 then fxS c l bd v k - c k else fxS c l bd v k
def fxP (b : Int) : Int := if b < 0 then 0 else b
/-- The terms of a constraint that stay. -/
def fxR (c l : Nat → Int) (v : Nat → Int) (k : Nat) : List (Int × Int) := pkR c l (fxQ l v) k
section
variable {c l v : Nat → Int} {bd : Int} {k n : Nat}
theorem fxR_yes (h : stV v (l k) = 0) : fxR c l v (k + 1) = fxR c l v k ++ [(c k, l k)] := pk_yes (decide_eq_true h)
theorem fxR_no (h : stV v (l k) ≠ 0) : fxR c l v (k + 1) = fxR c l v k := pk_no (decide_eq_false h)
theorem fxS_yes (h : stV v (l k) = 1) : fxS c l bd v (k + 1) = fxS c l bd v k - c k := if_pos h
theorem fxS_no (h : stV v (l k) ≠ 1) : fxS c l bd v (k + 1) = fxS c l bd v k := if_neg h
theorem fxS_le (hv : ∀ i, i < n → 1 ≤ c i ∧ c i ≤ 1000) : fxS c l bd v n ≤ bd ∧ bd - 1000 * (n : Int) ≤ fxS c l bd v n := by
  induction n with
  | zero => simp [fxS]
  | succ n ih =>
    have h1 := ih (fun i hi => hv i (by omega))
    have h2 := hv n (by omega)
    unfold fxS
    split <;> omega
theorem fxP_step {b x : Int} (hx : 0 ≤ x) : (if fxP b - x < 0 then 0 else fxP b - x) = fxP (b - x) := by
  unfold fxP
  by_cases h1 : b < 0
  · rw [if_pos h1, if_pos (show b - x < 0 by omega)]
    split <;> omega
  · rw [if_neg h1]
theorem fxR_le (k : Nat) : (fxR c l v k).length ≤ k := pk_le k
end
/-- A constraint with its variables' values put in. -/
def fxCon (v : Nat → Int) (x : Con) : Con := ⟨(fxR x.c x.l v x.n).length, fxP (fxS x.c x.l x.bd v x.n), pkC (fxR x.c x.l v x.n), pkL (fxR x.c x.l v x.n)⟩
theorem vb_coef {n : Nat} {c l : Nat → Int} {bd : Int} (h : validB n c l bd = true) : ∀ i, i < n → 1 ≤ c i ∧ c i ≤ 1000 := by
  unfold validB at h
  rw [Bool.and_eq_true] at h
  exact fun i hi => okAt_coef (vtB_at h.1 hi)
theorem vb_bd {n : Nat} {c l : Nat → Int} {bd : Int} (h : validB n c l bd = true) : 0 ≤ bd ∧ bd ≤ 20000 := by
  unfold validB at h
  simp only [Bool.and_eq_true, decide_eq_true_eq] at h
  exact h.2
theorem fxCon_valid {v : Nat → Int} {x : Con} (h : validB x.n x.c x.l x.bd = true) : validB (fxCon v x).n (fxCon v x).c (fxCon v x).l (fxCon v x).bd = true := by
  have h1 := vb_bd h
  have h2 := fxS_le (l := x.l) (v := v) (bd := x.bd) (vb_coef h)
  unfold validB at h ⊢
  rw [Bool.and_eq_true] at h ⊢
  refine ⟨pk_valid h.1 x.n (Nat.le_refl _), ?_⟩
  have : 0 ≤ fxP (fxS x.c x.l x.bd v x.n) ∧ fxP (fxS x.c x.l x.bd v x.n) ≤ 20000 := by unfold fxP; split <;> omega
  rw [Bool.and_eq_true]
  exact ⟨decide_eq_true this.1, decide_eq_true this.2⟩
/-- The fixed problem. -/
def fixK (p : Nat → Con) (v : Nat → Int) (i : Nat) : Con := fxCon v (p i)
def fixOk (n : Nat) (p : Nat → Con) (m : Nat) (v : Nat → Int) : Bool := probB n p && pvB m v
def fixN (n : Nat) (p : Nat → Con) (m : Nat) (v : Nat → Int) : Nat := if fixOk n p m v = true then n else 0
section
variable {n m : Nat} {p : Nat → Con} {v : Nat → Int}
theorem fix_yes (h1 : probB n p = true) (h2 : pvB m v = true) : fixOk n p m v = true ∧ fixN n p m v = n := by
  have h : fixOk n p m v = true := by unfold fixOk; rw [h1, h2]; rfl
  exact ⟨h, if_pos h⟩
theorem fix_no (h : probB n p = false ∨ pvB m v = false) : fixOk n p m v = false ∧ fixN n p m v = 0 := by
  have h : fixOk n p m v = false := by
    unfold fixOk
    rcases h with h | h <;> rw [h]
    · rfl
    · rw [Bool.and_false]
  exact ⟨h, if_neg (by rw [h]; exact Bool.false_ne_true)⟩
theorem fix_ok (h : fixOk n p m v = true) : probB n p = true ∧ pvB m v = true := by
  unfold fixOk at h
  rwa [Bool.and_eq_true] at h
theorem fixN_le (n : Nat) (p : Nat → Con) (m : Nat) (v : Nat → Int) : fixN n p m v ≤ 400 := by
  unfold fixN
  split
  · rename_i h
    exact prob_400 (fix_ok h).1
  · omega
theorem fix_12 {i : Nat} (hi : i < fixN n p m v) : (fixK p v i).n ≤ 12 := by
  unfold fixN at hi
  split at hi
  · rename_i h
    have h4 : validB (p i).n (p i).c (p i).l (p i).bd = true := allV_at (prob_V (fix_ok h).1) hi
    exact valid_le12 (fxCon_valid (v := v) h4)
  · omega
theorem fix_all (n : Nat) (p : Nat → Con) (m : Nat) (v : Nat → Int) (i : Nat) (hi : i < fixN n p m v) : (fixK p v i).n ≤ 1048576 := Nat.le_trans (fix_12 hi) (by omega)
theorem fix_tot (n : Nat) (p : Nat → Con) (m : Nat) (v : Nat → Int) : fixN n p m v + 2 * tot (fixK p v) (fixN n p m v) ≤ 500000 := by
  have h1 := fixN_le n p m v
  have h2 := tot_12 (q := fixK p v) (k := fixN n p m v) fun i hi => fix_12 hi
  omega
end
end Go.Proofs.Ytbebdhjhlheboaa
