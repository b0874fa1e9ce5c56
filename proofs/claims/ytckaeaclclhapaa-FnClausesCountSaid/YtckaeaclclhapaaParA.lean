/- Partial assignments and the sums under them: plain facts (no claim of its own). Conditions: as each theorem states. -/
import Derived.Test.YtckaeaclclhapaaComA
import Derived.Test.YtckaeaclclhapaaIntA
import Derived.Test.YtckaeaclclhapaaSumD
namespace Go.Proofs.Ytckaeaclclhapaa
open Go.ChangeShapes Go.WideShapes Go.ChangeAt Go.RowKit Go.Shelf

/-- The first k values are -1, 0 or 1. -/
def pvT (v : Nat → Int) : Nat → Bool
  | 0 => true
  | k + 1 => pvT v k && (decide (-1 ≤ v k) && decide (v k ≤ 1))
/-- Whether values are a partial assignment. -/
def pvB (n : Nat) (v : Nat → Int) : Bool := pvT v n && n == 12
theorem pvT_at {v : Nat → Int} {n k : Nat} (h : pvT v n = true) (hk : k < n) : -1 ≤ v k ∧ v k ≤ 1 := by
  induction n with
  | zero => omega
  | succ n ih =>
    unfold pvT at h
    simp only [Bool.and_eq_true, decide_eq_true_eq] at h
    by_cases e : k = n
    · subst e; exact h.2
    · exact ih h.1 (by omega)
theorem pvT_iff {v : Nat → Int} {n : Nat} : pvT v n = true ↔ ∀ i, i < n → -1 ≤ v i ∧ v i ≤ 1 := by
  constructor
  · exact fun h i hi => pvT_at h hi
  · intro h
    induction n with
    | zero => rfl
    | succ n ih =>
      unfold pvT
      rw [ih (fun i hi => h i (by omega))]
      have := h n (by omega)
      simp [this]
theorem pvB_iff {v : Nat → Int} {n : Nat} : pvB n v = true ↔ n = 12 ∧ ∀ i, i < 12 → -1 ≤ v i ∧ v i ≤ 1 := by
  unfold pvB
  rw [Bool.and_eq_true, pvT_iff, beq_iff_eq]
  constructor
  · rintro ⟨h, rfl⟩; exact ⟨rfl, h⟩
  · rintro ⟨rfl, h⟩; exact ⟨h, rfl⟩
theorem pvB_no {v : Nat → Int} {n k : Nat} (hk : k < n) (h : v k < -1 ∨ 1 < v k) : pvB n v = false := by
  cases hb : pvB n v with
  | false => rfl
  | true =>
    obtain ⟨rfl, h1⟩ := pvB_iff.1 hb
    have := h1 k hk
    omega

/-- What a literal is under a partial assignment: 1, -1 or 0. -/
def stV (v : Nat → Int) (l : Int) : Int := if 0 < l then v (l - 1).toNat else -(v (-l - 1).toNat)
theorem stV_bd {v : Nat → Int} {l : Int} (hl : litB l = true) (h : ∀ i, i < 12 → -1 ≤ v i ∧ v i ≤ 1) : -1 ≤ stV v l ∧ stV v l ≤ 1 := by
  obtain ⟨h0, h1, h2⟩ := litB_iff.1 hl
  unfold stV
  split
  · exact h _ (by omega)
  · have := h (-l - 1).toNat (by omega)
    omega
/-- A literal that is not false. -/
def nfP (v : Nat → Int) (l : Int) : Bool := decide (0 ≤ stV v l)

/-- The sum of the coefficients of those of the first k terms whose literals are chosen. -/
def sB (c l : Nat → Int) (P : Int → Bool) : Nat → Int
  | 0 => 0
  | k + 1 => if P (l k) then sB c l P k + c k else sB c l P k
section
variable {c l : Nat → Int} {P : Int → Bool} {k n : Nat} {bd : Int}
theorem sB_yes (h : P (l k) = true) : sB c l P (k + 1) = sB c l P k + c k := by show (if P (l k) then _ else _) = _; rw [if_pos h]
theorem sB_no (h : P (l k) = false) : sB c l P (k + 1) = sB c l P k := by show (if P (l k) then _ else _) = _; rw [if_neg (by rw [h]; decide)]
theorem sB_le (h : ∀ i, i < k → 1 ≤ c i ∧ c i ≤ 1000) : 0 ≤ sB c l P k ∧ sB c l P k ≤ 1000 * (k : Int) := by
  induction k with
  | zero => simp [sB]
  | succ k ih =>
    have h1 := ih (fun i hi => h i (by omega))
    have h2 := h k (by omega)
    unfold sB
    split <;> omega
theorem sumW_sB (hk : k ≤ 1048576) (h : ∀ i, i < k → 1 ≤ c i ∧ c i ≤ 1000) : sumW (sel c l P k) = sB c l P k := by
  induction k with
  | zero => rfl
  | succ k ih =>
    have h1 := ih (by omega) (fun i hi => h i (by omega))
    have h2 := sB_le (l := l) (P := P) (fun i hi => h i (by omega : i < k + 1)) (k := k)
    have h3 := h k (by omega)
    cases hp : P (l k) with
    | true =>
      rw [sel_yes hp, sumW_snoc, h1, sB_yes hp, ← IntWalk.i64_left]
      exact IntWalk.i64_in _ (by omega)
    | false => rw [sel_no hp, h1, sB_no hp]
theorem coef_of (h : validB n c l bd = true) : ∀ i, i < n → 1 ≤ c i ∧ c i ≤ 1000 := fun i hi => by
  unfold validB at h
  rw [Bool.and_eq_true] at h
  exact okAt_coef (vtB_at h.1 hi)
theorem bound_of (h : validB n c l bd = true) : 0 ≤ bd ∧ bd ≤ 20000 := by
  unfold validB at h
  simp only [Bool.and_eq_true, decide_eq_true_eq] at h
  exact h.2
end

/-- The slack of a constraint under a partial assignment. -/
def slk (n : Nat) (c l : Nat → Int) (bd : Int) (v : Nat → Int) : Int := sB c l (nfP v) n - bd
/-- Whether there is one. -/
def slkOk (n : Nat) (c l : Nat → Int) (bd : Int) (nv : Nat) (v : Nat → Int) : Bool := validB n c l bd && pvB nv v
/-- What SlackOf answers. -/
def slkV (n : Nat) (c l : Nat → Int) (bd : Int) (nv : Nat) (v : Nat → Int) : Int := if slkOk n c l bd nv v then slk n c l bd v else 0
theorem slk_bd {n : Nat} {c l : Nat → Int} {bd : Int} {v : Nat → Int} (h : validB n c l bd = true) : -20000 ≤ slk n c l bd v ∧ slk n c l bd v ≤ 1000 * (n : Int) := by
  have h1 := sB_le (l := l) (P := nfP v) (coef_of h)
  have h2 := bound_of h
  unfold slk
  omega
end Go.Proofs.Ytckaeaclclhapaa
