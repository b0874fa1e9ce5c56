/- Cubes: which lists of ints are variables, which are literals of ascending variables (no claim of its own). Conditions: as each theorem states. -/
import Derived.Test.YtbebdhjhlheboaaDoorValidB
import Derived.Test.YtbebdhjhlheboaaDoorProB
import Derived.Test.YtbebdhjhlheboaaDoorIntR
namespace Go.Proofs.YtbebdhjhlheboaaDoor
open Go.ChangeShapes Go.WideShapes Go.ChangeAt Go.RowKit

/-- The number ahead of number k, or 0. -/
def lastV (c : Nat → Int) : Nat → Int
  | 0 => 0
  | k + 1 => c k
/-- The first k numbers are variables, in ascending order. -/
def varR (c : Nat → Int) : Nat → Bool
  | 0 => true
  | k + 1 => varR c k && (decide (lastV c k < c k) && decide (c k ≤ 12))
def varsB (n : Nat) (c : Nat → Int) : Bool := varR c n && decide (n ≤ 4)
/-- The first k numbers are literals. -/
def litR (c : Nat → Int) : Nat → Bool
  | 0 => true
  | k + 1 => litR c k && litB (c k)
def abF (c : Nat → Int) (i : Nat) : Int := ab (c i)
/-- A cube. -/
def cubeB (n : Nat) (c : Nat → Int) : Bool := litR c n && varsB n (abF c)
section
variable {c c' : Nat → Int} {n k : Nat}
theorem varR_at (h : varR c n = true) (hk : k < n) : lastV c k < c k ∧ c k ≤ 12 := by
  induction n with
  | zero => omega
  | succ n ih =>
    unfold varR at h
    simp only [Bool.and_eq_true, decide_eq_true_eq] at h
    by_cases e : k = n
    · subst e; exact h.2
    · exact ih h.1 (by omega)
theorem varR_no (h : ¬ (lastV c k < c k ∧ c k ≤ 12)) (hk : k < n) : varR c n = false := by
  cases hv : varR c n with
  | false => rfl
  | true => exact absurd (varR_at hv hk) h
theorem varR_yes (h : varR c k = true) (h1 : lastV c k < c k ∧ c k ≤ 12) : varR c (k + 1) = true := by
  unfold varR
  rw [h, decide_eq_true h1.1, decide_eq_true h1.2]
  rfl
theorem varsB_no (h : varR c n = false) : varsB n c = false := by unfold varsB; rw [h]; rfl
theorem varsB_yes (h : varR c n = true) : varsB n c = decide (n ≤ 4) := by unfold varsB; rw [h]; rfl
theorem lastV_ge (h : varR c k = true) : 0 ≤ lastV c k := by
  induction k with
  | zero => exact Int.le_refl _
  | succ k ih =>
    have h1 := varR_at h (Nat.lt_succ_self k)
    have h2 : varR c k = true := by
      unfold varR at h
      rw [Bool.and_eq_true] at h
      exact h.1
    have := ih h2
    show 0 ≤ c k
    omega
theorem varR_pos (h : varR c n = true) (hk : k < n) : 1 ≤ c k ∧ c k ≤ 12 := by
  have h1 := varR_at h hk
  have h2 : ∀ n, varR c n = true → k ≤ n → varR c k = true := by
    intro n
    induction n with
    | zero => intro h hk; obtain rfl : k = 0 := (by omega); rfl
    | succ n ih =>
      intro h hk
      by_cases e : k = n + 1
      · rw [e]; exact h
      · unfold varR at h
        rw [Bool.and_eq_true] at h
        exact ih h.1 (by omega)
  have := lastV_ge (h2 n h (by omega))
  omega
theorem varR_eq (h : ∀ i, i < n → c i = c' i) : varR c n = varR c' n := by
  induction n with
  | zero => rfl
  | succ n ih =>
    have h1 : lastV c n = lastV c' n := by
      cases n with
      | zero => rfl
      | succ m => exact h m (by omega)
    unfold varR
    rw [ih fun i hi => h i (by omega), h1, h n (by omega)]
theorem varsB_eq (h : ∀ i, i < n → c i = c' i) : varsB n c = varsB n c' := by unfold varsB; rw [varR_eq h]
theorem litR_at (h : litR c n = true) (hk : k < n) : litB (c k) = true := by
  induction n with
  | zero => omega
  | succ n ih =>
    unfold litR at h
    rw [Bool.and_eq_true] at h
    by_cases e : k = n
    · subst e; exact h.2
    · exact ih h.1 (by omega)
theorem litR_no (h : litB (c k) = false) (hk : k < n) : litR c n = false := by
  cases hv : litR c n with
  | false => rfl
  | true => rw [litR_at hv hk] at h; cases h
theorem litR_yes (h : litR c k = true) (h1 : litB (c k) = true) : litR c (k + 1) = true := by unfold litR; rw [h, h1]; rfl
theorem cube_lit (h : litB (c k) = false) (hk : k < n) : cubeB n c = false := by unfold cubeB; rw [litR_no h hk]; rfl
theorem cube_asc (h : ¬ (lastV (abF c) k < ab (c k))) (hk : k < n) : cubeB n c = false := by
  unfold cubeB
  rw [varsB_no (varR_no (c := abF c) (k := k) (fun h1 => h h1.1) hk), Bool.and_false]
theorem cube_end (h : litR c n = true) (h1 : varR (abF c) n = true) : cubeB n c = decide (n ≤ 4) := by unfold cubeB; rw [h, varsB_yes h1]; rfl
theorem cube_parts (h : cubeB n c = true) : litR c n = true ∧ varR (abF c) n = true ∧ n ≤ 4 := by
  unfold cubeB varsB at h
  simp only [Bool.and_eq_true, decide_eq_true_eq] at h
  exact ⟨h.1, h.2.1, h.2.2⟩
/-- Variables as literals. -/
theorem cube_vars : (cubeB n c && !(anyQ (fun i => decide (c i < 0)) n)) = varsB n c := by
  rw [Bool.eq_iff_iff]
  constructor
  · intro h
    rw [Bool.and_eq_true, Bool.not_eq_true'] at h
    obtain ⟨h1, h2⟩ := h
    obtain ⟨a1, a2, a3⟩ := cube_parts h1
    have hp : ∀ i, i < n → abF c i = c i := fun i hi => by
      have h3 : ¬ c i < 0 := fun h4 => by
        rw [anyQ_of hi (decide_eq_true h4)] at h2
        cases h2
      unfold abF ab
      rw [if_neg h3]
    rw [← varsB_eq hp]
    unfold varsB
    rw [a2, decide_eq_true a3]
    rfl
  · intro h
    have h0 := h
    unfold varsB at h
    simp only [Bool.and_eq_true, decide_eq_true_eq] at h
    have hp : ∀ i, i < n → abF c i = c i := fun i hi => by
      have := varR_pos h.1 hi
      unfold abF ab
      rw [if_neg (by omega)]
    have hl : ∀ k, k ≤ n → litR c k = true := by
      intro k
      induction k with
      | zero => intro _; rfl
      | succ k ih =>
        intro hk
        have := varR_pos h.1 (show k < n by omega)
        exact litR_yes (ih (by omega)) (litB_iff.2 (by omega))
    have hq : ∀ k, k ≤ n → anyQ (fun i => decide (c i < 0)) k = false := by
      intro k
      induction k with
      | zero => intro _; rfl
      | succ k ih =>
        intro hk
        have := varR_pos h.1 (show k < n by omega)
        exact anyQ_step (ih (by omega)) (decide_eq_false (by omega))
    rw [hq n (Nat.le_refl _)]
    unfold cubeB
    rw [hl n (Nat.le_refl _), varsB_eq hp, h0]
    rfl
end
/-- The variables of the first k literals. -/
def abL (c : Nat → Int) (k : Nat) : List Int := (List.range k).map (abF c)
theorem abL_succ (c : Nat → Int) (k : Nat) : abL c (k + 1) = abL c k ++ [ab (c k)] := by simp [abL, List.range_succ, abF]
theorem abL_len (c : Nat → Int) (k : Nat) : (abL c k).length = k := by simp [abL]
theorem abL_at (c : Nat → Int) {k i : Nat} (h : i < k) : gI (abL c k) i = abF c i := by simp [abL, gI, List.getD, h]
theorem vars_abL (c : Nat → Int) (n : Nat) : varsB n (gI (abL c n)) = varsB n (abF c) := varsB_eq fun _ hi => abL_at c hi
end Go.Proofs.YtbebdhjhlheboaaDoor
