/- The solutions that are not before some values (no claim of its own). Conditions: as each theorem states. -/
import Derived.Test.YtaenbajghblgiaaSolN
namespace Go.Proofs.Ytaenbajghblgiaa
set_option linter.unusedSimpArgs false
open Go.ChangeShapes Go.WideShapes Go.ChangeAt Go.RowKit

/-- The literal of a variable that is true under v. -/
def litV (v : Nat → Bool) (i : Nat) : Int := if v i then (i : Int) + 1 else -((i : Int) + 1)
def litsV (v : Nat → Bool) (j : Nat) : List Int := (List.range j).map (litV v)
theorem litsV_succ (v : Nat → Bool) (j : Nat) : litsV v (j + 1) = litsV v j ++ [litV v j] := by simp [litsV, List.range_succ]
theorem litsV_len (v : Nat → Bool) (j : Nat) : (litsV v j).length = j := by simp [litsV]
theorem trueP_litV (u v : Nat → Bool) (i : Nat) : trueP u (litV v i) = (u i == v i) := by
  unfold trueP litV
  cases hv : v i with
  | true =>
    rw [if_pos rfl, if_pos (by omega), show ((i : Int) + 1 - 1).toNat = i by omega]
    cases u i <;> rfl
  | false =>
    rw [if_neg Bool.false_ne_true, if_neg (by omega), show (- -((i : Int) + 1) - 1).toNat = i by omega]
    cases u i <;> rfl
theorem trueP_nlitV (u v : Nat → Bool) (i : Nat) : trueP u (-(litV v i)) = (u i != v i) := by
  unfold trueP litV
  cases hv : v i with
  | true =>
    rw [if_pos rfl, if_neg (by omega), show (-(-((i : Int) + 1)) - 1).toNat = i by omega]
    cases u i <;> rfl
  | false =>
    rw [if_neg Bool.false_ne_true, if_pos (by omega), show (-(-((i : Int) + 1)) - 1).toNat = i by omega]
    cases u i <;> rfl
theorem numU_succ (u : Nat → Bool) (j : Nat) : numU u (j + 1) = 2 * numU u j + (if u j then 1 else 0) := rfl
/-- What the first j values are, as a number. -/
def pre12 (k j : Nat) : Nat := k / 2 ^ (12 - j)
theorem pre12_succ {k j : Nat} (hj : j < 12) : pre12 k (j + 1) / 2 = pre12 k j ∧ (pre12 k (j + 1) % 2 = if valN k j then 1 else 0) := by
  unfold pre12 valN
  rw [show 12 - (j + 1) = 11 - j by omega]
  refine ⟨?_, ?_⟩
  · rw [Nat.div_div_eq_div_mul, ← Nat.pow_succ]
    show k / 2 ^ (11 - j + 1) = _
    rw [show 11 - j + 1 = 12 - j by omega]
  · generalize k / 2 ^ (11 - j) = q
    by_cases h : q % 2 = 1
    · rw [h]; rfl
    · rw [show q % 2 = 0 by omega]; rfl
theorem agD_lits {k : Nat} (hk : k < 4096) (v : Nat → Bool) : ∀ j, j ≤ 12 → agD (litsV v j) (valN k) = decide (pre12 k j = numU v j) := by
  intro j
  induction j with
  | zero =>
    intro _
    have h : pre12 k 0 = 0 := by unfold pre12; show k / 4096 = 0; omega
    rw [h]
    rfl
  | succ j ih =>
    intro hj
    rw [litsV_succ, agD_snoc, ih (by omega), trueP_litV]
    obtain ⟨h1, h2⟩ := pre12_succ (k := k) (show j < 12 by omega)
    rw [numU_succ]
    generalize pre12 k (j + 1) = g at *
    rw [← h1]
    cases ha : valN k j <;> cases hb : v j <;> rw [ha] at h2 <;> simp at h2 ⊢ <;> omega
theorem filter_ge (q : Nat → Bool) (f : Nat → Nat) (hf : ∀ a b, a ≤ b → f a ≤ f b) (c : Nat) : ∀ n, (List.range n).filter (fun k => q k && decide (f k = c)) ++ (List.range n).filter (fun k => q k && decide (c < f k)) = (List.range n).filter (fun k => q k && decide (c ≤ f k)) := by
  intro n
  induction n with
  | zero => rfl
  | succ n ih =>
    rw [List.range_succ, List.filter_append, List.filter_append, List.filter_append, ← ih]
    have s : ∀ P : Nat → Bool, List.filter P [n] = if P n = true then [n] else [] := fun P => by cases h : P n <;> simp [List.filter_cons, h]
    rcases Nat.lt_trichotomy (f n) c with h | h | h
    · have e1 : decide (f n = c) = false := decide_eq_false (by omega)
      have e2 : decide (c < f n) = false := decide_eq_false (by omega)
      have e3 : decide (c ≤ f n) = false := decide_eq_false (by omega)
      simp only [s, e1, e2, e3, Bool.and_true, Bool.and_false, Bool.false_eq_true, if_false, List.append_nil, List.append_assoc]
    · have e2 : decide (c < f n) = false := decide_eq_false (by omega)
      have e1 : decide (f n = c) = true := decide_eq_true h
      have e3 : decide (c ≤ f n) = true := decide_eq_true (by omega)
      have hn : (List.range n).filter (fun k => q k && decide (c < f k)) = [] := by
        rw [List.filter_eq_nil_iff]
        intro k hk
        have := hf k n (Nat.le_of_lt (List.mem_range.1 hk))
        rw [decide_eq_false (show ¬ c < f k by omega), Bool.and_false]
        exact Bool.false_ne_true
      simp only [s, e1, e2, e3, hn, Bool.and_true, Bool.and_false, Bool.false_eq_true, if_false, List.append_nil]
    · have e1 : decide (f n = c) = false := decide_eq_false (by omega)
      have e2 : decide (c < f n) = true := decide_eq_true h
      have e3 : decide (c ≤ f n) = true := decide_eq_true (by omega)
      simp only [s, e1, e2, e3, Bool.and_true, Bool.and_false, Bool.false_eq_true, if_false, List.append_nil, List.append_assoc]
theorem pre12_mono {a b : Nat} (h : a ≤ b) (j : Nat) : pre12 a j ≤ pre12 b j := Nat.div_le_div_right h
theorem solL_lits (q : Nat → Bool) (v : Nat → Bool) {j : Nat} (hj : j ≤ 12) : solL q (litsV v j) = (List.range 4096).filter fun k => q k && decide (pre12 k j = numU v j) := by
  unfold solL
  refine List.filter_congr fun k hk => ?_
  rw [agD_lits (List.mem_range.1 hk) v j hj]
theorem remR_lits (q : Nat → Bool) (v : Nat → Bool) : ∀ j, j ≤ 12 → remR q (litsV v j).reverse = (List.range 4096).filter fun k => q k && decide (numU v j < pre12 k j) := by
  intro j
  induction j with
  | zero =>
    intro _
    symm
    show _ = []
    rw [List.filter_eq_nil_iff]
    intro k hk
    have h : pre12 k 0 = 0 := by have := List.mem_range.1 hk; unfold pre12; show k / 4096 = 0; omega
    rw [h, decide_eq_false (Nat.not_lt_zero _), Bool.and_false]
    exact Bool.false_ne_true
  | succ j ih =>
    intro hj
    rw [litsV_succ, List.reverse_append, List.reverse_singleton]
    show (if litV v j < 0 then solL q ((litsV v j).reverse.reverse ++ [-(litV v j)]) else []) ++ remR q (litsV v j).reverse = _
    rw [List.reverse_reverse, ih (by omega)]
    cases hv : v j with
    | true =>
      rw [if_neg (by unfold litV; rw [hv, if_pos rfl]; omega), List.nil_append]
      refine List.filter_congr fun k hk => ?_
      obtain ⟨h1, h2⟩ := pre12_succ (k := k) (show j < 12 by omega)
      rw [numU_succ, hv, if_pos rfl, ← h1]
      congr 1
      rw [decide_eq_decide]
      omega
    | false =>
      rw [if_pos (by unfold litV; rw [hv, if_neg Bool.false_ne_true]; omega)]
      have e : solL q (litsV v j ++ [-(litV v j)]) = (List.range 4096).filter fun k => q k && decide (pre12 k (j + 1) = 2 * numU v j + 1) := by
        unfold solL
        refine List.filter_congr fun k hk => ?_
        rw [agD_snoc, agD_lits (List.mem_range.1 hk) v j (by omega), trueP_nlitV, hv]
        obtain ⟨h1, h2⟩ := pre12_succ (k := k) (show j < 12 by omega)
        rw [← h1]
        generalize pre12 k (j + 1) = g at *
        congr 1
        cases ha : valN k j <;> rw [ha] at h2 <;> simp at h2 ⊢ <;> omega
      have e2 : ((List.range 4096).filter fun k => q k && decide (numU v j < pre12 k j)) = (List.range 4096).filter fun k => q k && decide (2 * numU v j + 1 < pre12 k (j + 1)) := by
        refine List.filter_congr fun k hk => ?_
        obtain ⟨h1, h2⟩ := pre12_succ (k := k) (show j < 12 by omega)
        have e8 : decide (numU v j < pre12 k j) = decide (2 * numU v j + 1 < pre12 k (j + 1)) := by
          rw [decide_eq_decide]
          omega
        rw [e8]
      rw [e, e2, filter_ge q (fun k => pre12 k (j + 1)) (fun a b h => pre12_mono h _)]
      refine List.filter_congr fun k hk => ?_
      have e9 : decide (2 * numU v j + 1 ≤ pre12 k (j + 1)) = decide (numU v (j + 1) < pre12 k (j + 1)) := by
        rw [numU_succ, hv, if_neg Bool.false_ne_true, decide_eq_decide]
        omega
      show (q k && decide (2 * numU v j + 1 ≤ pre12 k (j + 1))) = (q k && decide (numU v (j + 1) < pre12 k (j + 1)))
      rw [e9]
/-- From some values on. -/
theorem sol_from (q : Nat → Bool) (v : Nat → Bool) : solL q (litsV v 12) ++ remR q (litsV v 12).reverse = (List.range 4096).filter fun k => q k && decide (numU v 12 ≤ k) := by
  rw [solL_lits q v (Nat.le_refl _), remR_lits q v 12 (Nat.le_refl _), filter_ge q (fun k => pre12 k 12) (fun a b h => pre12_mono h _)]
  refine List.filter_congr fun k _ => ?_
  show (q k && decide (numU v 12 ≤ k / 2 ^ 0)) = _
  rw [Nat.pow_zero, Nat.div_one]
end Go.Proofs.Ytaenbajghblgiaa
