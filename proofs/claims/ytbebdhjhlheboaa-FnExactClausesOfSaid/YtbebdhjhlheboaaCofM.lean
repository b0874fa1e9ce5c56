/- The minimal sets of literals of a constraint, and their clauses: plain facts (no claim of its own). Conditions: as each theorem states. -/
import Derived.Test.YtbebdhjhlheboaaFixM
import Derived.Test.YtbebdhjhlheboaaDsjZ
namespace Go.Proofs.Ytbebdhjhlheboaa
open Go.ChangeShapes Go.WideShapes Go.ChangeAt Go.RowKit

/-- Bit i of a number. -/
def bitJ (j i : Nat) : Bool := j / 2 ^ i % 2 == 1
/-- The sum and the least of the chosen coefficients among the first k. -/
def cfS (c : Nat → Int) (q : Nat → Bool) : Nat → Int
  | 0 => 0
  | k + 1 => if q k = true then cfS c q k + c k else cfS c q k
def cfL (c : Nat → Int) (q : Nat → Bool) : Nat → Int
  | 0 => 1000
  | k + 1 => if q k = true then (if c k < cfL c q k then c k else cfL c q k) else cfL c q k
/-- The sum of all coefficients. -/
def cfT (n : Nat) (c l : Nat → Int) : Int := sB c l (fun _ => true) n
/-- A set of literals that cannot all be false, of which no literal can be left out. -/
def cfB (n : Nat) (c l : Nat → Int) (bd : Int) (q : Nat → Bool) : Bool :=
  decide (cfT n c l - cfS c q n < bd) && (decide ((pkR c l q n).length = 0) || decide (bd ≤ cfT n c l - cfS c q n + cfL c q n))
section
variable {c l : Nat → Int} {q : Nat → Bool} {n k : Nat} {bd : Int}
theorem cfS_yes (h : q k = true) : cfS c q (k + 1) = cfS c q k + c k := if_pos h
theorem cfS_no (h : q k = false) : cfS c q (k + 1) = cfS c q k := if_neg (by rw [h]; decide)
theorem cfL_no (h : q k = false) : cfL c q (k + 1) = cfL c q k := if_neg (by rw [h]; decide)
theorem cfL_less (h : q k = true) (h1 : c k < cfL c q k) : cfL c q (k + 1) = c k := by
  show (if q k = true then _ else _) = _
  rw [if_pos h, if_pos h1]
theorem cfL_more (h : q k = true) (h1 : ¬ c k < cfL c q k) : cfL c q (k + 1) = cfL c q k := by
  show (if q k = true then _ else _) = _
  rw [if_pos h, if_neg h1]
theorem cfS_le (h : ∀ i, i < k → 1 ≤ c i ∧ c i ≤ 1000) : 0 ≤ cfS c q k ∧ cfS c q k ≤ 1000 * (k : Int) := by
  induction k with
  | zero => simp [cfS]
  | succ k ih =>
    have h1 := ih (fun i hi => h i (by omega))
    have h2 := h k (by omega)
    unfold cfS
    split <;> omega
theorem cfL_le (h : ∀ i, i < k → 1 ≤ c i ∧ c i ≤ 1000) : 1 ≤ cfL c q k ∧ cfL c q k ≤ 1000 := by
  induction k with
  | zero => simp [cfL]
  | succ k ih =>
    have h1 := ih (fun i hi => h i (by omega))
    have h2 := h k (by omega)
    unfold cfL
    repeat' split
    all_goals omega
/-- What the rows say of it. -/
theorem cfS_rows : sB (pkC (pkR c l q k)) (pkL (pkR c l q k)) (fun _ => true) (pkR c l q k).length = cfS c q k := by
  induction k with
  | zero => rfl
  | succ k ih =>
    cases e : q k with
    | false => rw [pk_no e, cfS_no e, ih]
    | true =>
      rw [pk_yes e, cfS_yes e, ← ih]
      have h1 : ∀ m, m ≤ (pkR c l q k).length → sB (pkC (pkR c l q k ++ [(c k, l k)])) (pkL (pkR c l q k ++ [(c k, l k)])) (fun _ => true) m = sB (pkC (pkR c l q k)) (pkL (pkR c l q k)) (fun _ => true) m := by
        intro m
        induction m with
        | zero => intro _; rfl
        | succ m ihm =>
          intro hm
          obtain ⟨a1, a2⟩ := pk_append (R := pkR c l q k) (x := (c k, l k)) (i := m) (by omega)
          rw [sB_suc, sB_suc, ihm (by omega), a1]
      obtain ⟨e1, e2⟩ := pk_last (pkR c l q k) (c k, l k)
      rw [List.length_append]
      show sB _ _ (fun _ => true) ((pkR c l q k).length + 1) = _
      rw [sB_suc, h1 _ (Nat.le_refl _), e1]
      exact if_pos rfl
theorem cfL_rows (h : ∀ i, i < k → 1 ≤ c i ∧ c i ≤ 1000) : (∀ i, i < (pkR c l q k).length → cfL c q k ≤ pkC (pkR c l q k) i) ∧ ((pkR c l q k).length ≠ 0 → ∃ i, i < (pkR c l q k).length ∧ pkC (pkR c l q k) i = cfL c q k) := by
  induction k with
  | zero => exact ⟨fun i hi => absurd hi (Nat.not_lt_zero i), fun h => absurd rfl h⟩
  | succ k ih =>
    obtain ⟨h1, h2⟩ := ih (fun i hi => h i (by omega))
    have hk := h k (by omega)
    cases e : q k with
    | false => rw [pk_no e, cfL_no e]; exact ⟨h1, h2⟩
    | true =>
      have hlen : (pkR c l q k ++ [(c k, l k)]).length = (pkR c l q k).length + 1 := by simp
      obtain ⟨e1, e2⟩ := pk_last (pkR c l q k) (c k, l k)
      rw [pk_yes e, hlen]
      by_cases hl : c k < cfL c q k
      · rw [cfL_less e hl]
        refine ⟨fun i hi => ?_, fun _ => ⟨_, Nat.lt_succ_self _, e1⟩⟩
        by_cases ei : i = (pkR c l q k).length
        · rw [ei, e1]
          exact Int.le_refl _
        · rw [(pk_append (R := pkR c l q k) (x := (c k, l k)) (i := i) (by omega)).1]
          have := h1 i (by omega)
          omega
      · rw [cfL_more e hl]
        refine ⟨fun i hi => ?_, fun _ => ?_⟩
        · by_cases ei : i = (pkR c l q k).length
          · rw [ei, e1]
            show cfL c q k ≤ c k
            omega
          · rw [(pk_append (R := pkR c l q k) (x := (c k, l k)) (i := i) (by omega)).1]
            exact h1 i (by omega)
        · by_cases hz : (pkR c l q k).length = 0
          · refine ⟨_, Nat.lt_succ_self _, ?_⟩
            rw [e1]
            show c k = cfL c q k
            have h0 : cfL c q k = 1000 := by
              have : ∀ m, (pkR c l q m).length = 0 → cfL c q m = 1000 := by
                intro m
                induction m with
                | zero => intro _; rfl
                | succ m ihm =>
                  intro hm
                  cases em : q m with
                  | false => rw [pk_no em] at hm; rw [cfL_no em]; exact ihm hm
                  | true => rw [pk_yes em] at hm; simp at hm
              exact this k hz
            omega
          · obtain ⟨i, hi, ei⟩ := h2 hz
            exact ⟨i, by omega, by rw [(pk_append (R := pkR c l q k) (x := (c k, l k)) (i := i) hi).1]; exact ei⟩
/-- The program's test, over the rows. -/
theorem cf_prog (h : ∀ i, i < n → 1 ≤ c i ∧ c i ≤ 1000) : (decide (cfT n c l - cfS c q n - bd < 0) && !anyQ (fun i => decide (cfT n c l - cfS c q n - bd + pkC (pkR c l q n) i < 0)) (pkR c l q n).length) = cfB n c l bd q := by
  obtain ⟨h1, h2⟩ := cfL_rows (l := l) (q := q) h
  unfold cfB
  rw [show decide (cfT n c l - cfS c q n - bd < 0) = decide (cfT n c l - cfS c q n < bd) from decide_eq_decide.2 (by omega)]
  congr 1
  have hany : ∀ m, m ≤ (pkR c l q n).length → ((!anyQ (fun i => decide (cfT n c l - cfS c q n - bd + pkC (pkR c l q n) i < 0)) m) = true ↔ ∀ i, i < m → 0 ≤ cfT n c l - cfS c q n - bd + pkC (pkR c l q n) i) := by
    intro m
    induction m with
    | zero => intro _; exact ⟨fun _ i hi => absurd hi (Nat.not_lt_zero i), fun _ => rfl⟩
    | succ m ih =>
      intro hm
      show (!(anyQ (fun i => decide (cfT n c l - cfS c q n - bd + pkC (pkR c l q n) i < 0)) m || decide (cfT n c l - cfS c q n - bd + pkC (pkR c l q n) m < 0))) = true ↔ _
      rw [Bool.not_or, Bool.and_eq_true, ih (by omega)]
      constructor
      · rintro ⟨a, b⟩ i hi
        by_cases e : i = m
        · subst e
          simp at b
          omega
        · exact a i (by omega)
      · intro a
        refine ⟨fun i hi => a i (by omega), ?_⟩
        have := a m (by omega)
        simp
        omega
  have hb := hany _ (Nat.le_refl _)
  cases hx : (!anyQ (fun i => decide (cfT n c l - cfS c q n - bd + pkC (pkR c l q n) i < 0)) (pkR c l q n).length) with
  | true =>
    have ha := hb.1 hx
    by_cases hz : (pkR c l q n).length = 0
    · simp [hz]
    · obtain ⟨i, hi, ei⟩ := h2 hz
      have := ha i hi
      rw [ei] at this
      rw [decide_eq_true (show bd ≤ cfT n c l - cfS c q n + cfL c q n by omega), Bool.or_true]
  | false =>
    by_cases hz : (pkR c l q n).length = 0
    · exfalso
      have := hb.2 (fun i hi => by omega)
      rw [hx] at this
      cases this
    · have : ¬ bd ≤ cfT n c l - cfS c q n + cfL c q n := fun hle => by
        have := hb.2 (fun i hi => by have := h1 i hi; omega)
        rw [hx] at this
        cases this
      simp [hz, this]
end
/-- The minimal sets among the first j. -/
def cfI (n : Nat) (c l : Nat → Int) (bd : Int) : Nat → List Nat
  | 0 => []
  | j + 1 => if cfB n c l bd (bitJ j) = true then cfI n c l bd j ++ [j] else cfI n c l bd j
/-- The literals of set j, and their clause. -/
def cfN (n : Nat) (c l : Nat → Int) (j : Nat) : Nat := (pkR c l (bitJ j) n).length
def cfF (n : Nat) (c l : Nat → Int) (j : Nat) : Nat → Int := pkL (pkR c l (bitJ j) n)
def cfC (n : Nat) (c l : Nat → Int) (j : Nat) : Con := ⟨clN (cfN n c l j) (cfF n c l j), clD (cfN n c l j) (cfF n c l j), one1, rL (clF (cfN n c l j) (cfF n c l j))⟩
def cfK (n : Nat) (c l : Nat → Int) (bd : Int) (i : Nat) : Con := cfC n c l ((cfI n c l bd (2 ^ n)).getD i 0)
def cfM (n : Nat) (c l : Nat → Int) (bd : Int) : Nat := (cfI n c l bd (2 ^ n)).length
def cfOk (n : Nat) (c l : Nat → Int) (bd : Int) : Bool := validB n c l bd && decide (cfM n c l bd ≤ 400)
def cfCnt (n : Nat) (c l : Nat → Int) (bd : Int) : Nat := if cfOk n c l bd = true then cfM n c l bd else 0
section
variable {n : Nat} {c l : Nat → Int} {bd : Int} {j k : Nat}
theorem cfI_yes (h : cfB n c l bd (bitJ j) = true) : cfI n c l bd (j + 1) = cfI n c l bd j ++ [j] := if_pos h
theorem cfI_no (h : cfB n c l bd (bitJ j) = false) : cfI n c l bd (j + 1) = cfI n c l bd j := if_neg (by rw [h]; decide)
theorem cfI_le (j : Nat) : (cfI n c l bd j).length ≤ j := by
  induction j with
  | zero => exact Nat.le_refl _
  | succ j ih =>
    unfold cfI
    split
    · simp; omega
    · omega
theorem cfI_prefix {j m : Nat} (h : j ≤ m) : cfI n c l bd j <+: cfI n c l bd m := by
  induction m with
  | zero =>
    obtain rfl : j = 0 := by omega
    exact List.prefix_refl _
  | succ m ih =>
    by_cases e : j = m + 1
    · subst e; exact List.prefix_refl _
    · refine (ih (by omega)).trans ?_
      show cfI n c l bd m <+: (if cfB n c l bd (bitJ m) = true then cfI n c l bd m ++ [m] else cfI n c l bd m)
      split
      · exact ⟨[m], rfl⟩
      · exact List.prefix_refl _
theorem cfI_mono {j m : Nat} (h : j ≤ m) : (cfI n c l bd j).length ≤ (cfI n c l bd m).length := (cfI_prefix h).length_le
theorem cfK_at (hj : j < 2 ^ n) (h : cfB n c l bd (bitJ j) = true) : cfK n c l bd (cfI n c l bd j).length = cfC n c l j := by
  obtain ⟨t, ht⟩ := cfI_prefix (n := n) (c := c) (l := l) (bd := bd) (show j + 1 ≤ 2 ^ n from hj)
  rw [cfI_yes h] at ht
  unfold cfK
  rw [← ht]
  simp [List.getD]
theorem cfI_more (hj : j < 2 ^ n) (h : cfB n c l bd (bitJ j) = true) : (cfI n c l bd j).length + 1 ≤ cfM n c l bd := by
  have h1 := cfI_mono (n := n) (c := c) (l := l) (bd := bd) (show j + 1 ≤ 2 ^ n from hj)
  rw [cfI_yes h, List.length_append] at h1
  exact h1
theorem cf_yes (h1 : validB n c l bd = true) (h2 : cfM n c l bd ≤ 400) : cfOk n c l bd = true ∧ cfCnt n c l bd = cfM n c l bd := by
  have h : cfOk n c l bd = true := by unfold cfOk; rw [h1, decide_eq_true h2]; rfl
  exact ⟨h, if_pos h⟩
theorem cf_no (h : validB n c l bd = false ∨ 400 < cfM n c l bd) : cfOk n c l bd = false ∧ cfCnt n c l bd = 0 := by
  have h : cfOk n c l bd = false := by
    unfold cfOk
    rcases h with h | h
    · rw [h]; rfl
    · rw [decide_eq_false (show ¬ cfM n c l bd ≤ 400 by omega), Bool.and_false]
  exact ⟨h, if_neg (by rw [h]; exact Bool.false_ne_true)⟩
theorem cf_ok (h : cfOk n c l bd = true) : validB n c l bd = true ∧ cfM n c l bd ≤ 400 := by
  unfold cfOk at h
  simpa using h
theorem cfCnt_le (n : Nat) (c l : Nat → Int) (bd : Int) : cfCnt n c l bd ≤ 400 := by
  unfold cfCnt
  split
  · rename_i h
    exact (cf_ok h).2
  · omega
theorem clF_12 (m : Nat) (f : Nat → Int) : clN m f ≤ 12 := by
  unfold clN
  split
  · exact clR_length _ _
  · omega
theorem cf_all (n : Nat) (c l : Nat → Int) (bd : Int) (i : Nat) (_hi : i < cfCnt n c l bd) : (cfK n c l bd i).n ≤ 1048576 := Nat.le_trans (clF_12 _ _) (by omega)
theorem cf_tot (n : Nat) (c l : Nat → Int) (bd : Int) : cfCnt n c l bd + 2 * tot (cfK n c l bd) (cfCnt n c l bd) ≤ 500000 := by
  have h1 := cfCnt_le n c l bd
  have h2 := tot_12 (q := cfK n c l bd) (k := cfCnt n c l bd) fun i hi => clF_12 _ _
  omega
end
end Go.Proofs.Ytbebdhjhlheboaa
