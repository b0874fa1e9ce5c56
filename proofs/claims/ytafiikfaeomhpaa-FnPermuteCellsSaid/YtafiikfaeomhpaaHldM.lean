/- RuleHolds: what it says (no claim of its own). Conditions: as each theorem states. -/
import Derived.Test.YtafiikfaeomhpaaBviA
namespace Go.Proofs.Ytafiikfaeomhpaa
open Go.ChangeShapes Go.WideShapes Go.ChangeAt Go.RowKit

/-- The values of the cells of a list. -/
def pk (v : Lst) (c : Nat → Int) (i : Nat) : Int := c (v.x i).toNat
def linS (a p : Nat → Int) : Nat → Int
  | 0 => 0
  | k + 1 => linS a p k + a k * p k
/-- Cells satisfy a rule. -/
def holdB (q : Rul) (c : Nat → Int) : Bool := if q.k = 1 then decide (q.bd ≤ linS q.c.x (pk q.v c) q.v.n) else if q.k = 2 then prE (newB (pk q.v c)) q.v.n else if q.k = 4 then decide (pk q.v c 0 < pk q.v c 1) else anyQ (fun j => lsE (q.r j) ⟨q.v.n, pk q.v c⟩) q.n

/-- What a valid rule is. -/
structure RuleOk (cells : Nat) (q : Rul) : Prop where
  len : 1 ≤ q.v.n
  at_ : ∀ i, i < q.v.n → 0 ≤ q.v.x i ∧ q.v.x i < cells
  kind : q.k = 1 ∨ q.k = 2 ∨ q.k = 3 ∨ q.k = 4
  lin : q.k = 1 → q.c.n = q.v.n ∧ ∀ i, i < q.c.n → -9 ≤ q.c.x i ∧ q.c.x i ≤ 9
  two : q.k = 4 → q.v.n = 2
theorem rule_ok {cells : Nat} {q : Rul} (h : ruleB cells q = true) : RuleOk cells q := by
  unfold ruleB at h
  simp only [Bool.and_eq_true] at h
  obtain ⟨hv, h1, h2, hk⟩ := h
  unfold varB at hv
  simp only [Bool.and_eq_true, decide_eq_true_eq] at hv
  unfold kindB at hk
  refine ⟨hv.2, fun i hi => ?_, ?_, fun e => ?_, fun e => ?_⟩
  · have := prE_at hv.1 hi
    simp [betB] at this
    omega
  · by_cases k1 : q.k = 1
    · exact .inl k1
    by_cases k2 : q.k = 2
    · exact .inr (.inl k2)
    by_cases k3 : q.k = 3
    · exact .inr (.inr (.inl k3))
    by_cases k4 : q.k = 4
    · exact .inr (.inr (.inr k4))
    · simp [k1, k2, k3, k4] at hk
  · rw [if_pos e] at hk
    unfold linB at hk
    simp only [Bool.and_eq_true, beq_iff_eq] at hk
    refine ⟨hk.2.1, fun i hi => ?_⟩
    have := prE_at hk.1 hi
    simp [wtB] at this
    omega
  · rw [if_neg (by omega), if_neg (by omega), if_neg (by omega), if_pos e] at hk
    simpa using hk
/-- Cells are values: each between 0 and 3. -/
def CelV (m : Nat) (c : Nat → Int) : Prop := ∀ i, i < m → 0 ≤ c i ∧ c i ≤ 3
theorem pk_bd {cells : Nat} {q : Rul} {c : Nat → Int} (h : RuleOk cells q) (hc : CelV cells c) {i : Nat} (hi : i < q.v.n) : 0 ≤ pk q.v c i ∧ pk q.v c i ≤ 3 := by
  obtain ⟨h0, h1⟩ := h.at_ i hi
  exact hc _ (by omega)
theorem lin_bd {a p : Nat → Int} {k : Nat} (ha : ∀ i, i < k → -9 ≤ a i ∧ a i ≤ 9) (hp : ∀ i, i < k → 0 ≤ p i ∧ p i ≤ 3) : -27 * (k : Int) ≤ linS a p k ∧ linS a p k ≤ 27 * k := by
  induction k with
  | zero => exact ⟨Int.le_refl _, Int.le_refl _⟩
  | succ k ih =>
    obtain ⟨h1, h2⟩ := ih (fun i hi => ha i (by omega)) (fun i hi => hp i (by omega))
    obtain ⟨a1, a2⟩ := ha k (by omega)
    obtain ⟨b1, b2⟩ := hp k (by omega)
    unfold linS
    have e : -27 ≤ a k * p k ∧ a k * p k ≤ 27 := by
      have : p k = 0 ∨ p k = 1 ∨ p k = 2 ∨ p k = 3 := by omega
      rcases this with h | h | h | h <;> rw [h] <;> omega
    omega
theorem mul_bd {x y : Int} (hx : -9 ≤ x ∧ x ≤ 9) (hy : 0 ≤ y ∧ y ≤ 3) : -27 ≤ x * y ∧ x * y ≤ 27 := by
  have : y = 0 ∨ y = 1 ∨ y = 2 ∨ y = 3 := by omega
  rcases this with h | h | h | h <;> rw [h] <;> omega
theorem cels_cel {s c : Lst} (h : celsB s c = true) (hs : prE (fun i => betB 0 3 (s.x i)) s.n = true) : c.n = s.n ∧ CelV s.n c.x := by
  unfold celsB at h
  simp only [Bool.and_eq_true, beq_iff_eq] at h
  refine ⟨h.1, fun i hi => ?_⟩
  have h1 := prE_at h.2 hi
  have h2 := size_at hs hi
  simp [betB] at h1
  omega
end Go.Proofs.Ytafiikfaeomhpaa
