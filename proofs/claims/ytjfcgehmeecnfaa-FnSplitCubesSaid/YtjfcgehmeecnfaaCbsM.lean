/- The cubes of some variables, by their numbers (no claim of its own). Conditions: as each theorem states. -/
import Derived.Test.YtjfcgehmeecnfaaCubM
import Derived.Test.YtjfcgehmeecnfaaMdlA
namespace Go.Proofs.Ytjfcgehmeecnfaa
open Go.ChangeShapes Go.WideShapes Go.ChangeAt Go.RowKit

/-- Whether literal i of cube j of n variables is a negation. -/
def bitN (n j i : Nat) : Bool := decide (j / 2 ^ (n - 1 - i) % 2 = 1)
/-- Cube j of the first n variables. -/
def cbL (c : Nat → Int) (n j : Nat) : Lst := ⟨n, fun i => if bitN n j i = true then -(c i) else c i⟩
theorem bit_old {n k b i : Nat} (hb : b < 2) (hi : i < n) : bitN (n + 1) (2 * k + b) i = bitN n k i := by
  unfold bitN
  have e : n + 1 - 1 - i = (n - 1 - i) + 1 := by omega
  rw [e, Nat.pow_succ, Nat.mul_comm (2 ^ (n - 1 - i)) 2, ← Nat.div_div_eq_div_mul, show (2 * k + b) / 2 = k by omega]
theorem bit_new {n k b : Nat} (hb : b < 2) : bitN (n + 1) (2 * k + b) n = decide (b = 1) := by
  unfold bitN
  rw [show n + 1 - 1 - n = 0 by omega, Nat.pow_zero, Nat.div_one]
  congr 1
  rw [eq_iff_iff]
  omega
theorem cb_old {c : Nat → Int} {n k b i : Nat} (hb : b < 2) (hi : i < n) : (cbL c (n + 1) (2 * k + b)).x i = (cbL c n k).x i := by
  show (if bitN (n + 1) (2 * k + b) i = true then -(c i) else c i) = (if bitN n k i = true then -(c i) else c i)
  rw [bit_old hb hi]
theorem cb_pos {c : Nat → Int} {n k : Nat} : (cbL c (n + 1) (2 * k)).x n = c n := by
  show (if bitN (n + 1) (2 * k + 0) n = true then -(c n) else c n) = c n
  rw [bit_new (by omega), if_neg (by decide)]
theorem cb_neg {c : Nat → Int} {n k : Nat} : (cbL c (n + 1) (2 * k + 1)).x n = -(c n) := by
  show (if bitN (n + 1) (2 * k + 1) n = true then -(c n) else c n) = -(c n)
  rw [bit_new (by omega), if_pos (by decide)]
theorem cb_tot (c : Nat → Int) (n m : Nat) : totL (cbL c n) m = n * m := by
  induction m with
  | zero => rfl
  | succ m ih =>
    show totL (cbL c n) m + n = n * (m + 1)
    rw [ih, Nat.mul_succ]
theorem pow16 {n : Nat} (h : n ≤ 4) : 2 ^ n ≤ 16 := by
  have : n = 0 ∨ n = 1 ∨ n = 2 ∨ n = 3 ∨ n = 4 := by omega
  rcases this with rfl | rfl | rfl | rfl | rfl <;> decide
/-- How many cubes SplitCubes hands back, and whether it does. -/
def splN (n : Nat) (c : Nat → Int) : Nat := if varsB n c = true then 2 ^ n else 0
theorem vars_4 {n : Nat} {c : Nat → Int} (h : varsB n c = true) : n ≤ 4 := by
  unfold varsB at h
  simp only [Bool.and_eq_true, decide_eq_true_eq] at h
  exact h.2
theorem splN_yes {n : Nat} {c : Nat → Int} (h : varsB n c = true) : splN n c = 2 ^ n := if_pos h
theorem splN_no {n : Nat} {c : Nat → Int} (h : varsB n c = false) : splN n c = 0 := if_neg (by rw [h]; exact Bool.false_ne_true)
theorem splN_le (n : Nat) (c : Nat → Int) : splN n c ≤ 16 := by
  unfold splN
  split
  · exact pow16 (vars_4 ‹_›)
  · omega
theorem spl_all (n : Nat) (c : Nat → Int) (i : Nat) (hi : i < splN n c) : (cbL c n i).n ≤ 1048576 := by
  unfold splN at hi
  split at hi
  · have := vars_4 ‹_›
    show n ≤ 1048576
    omega
  · omega
theorem spl_tot (n : Nat) (c : Nat → Int) : splN n c + totL (cbL c n) (splN n c) ≤ 1048576 := by
  rw [cb_tot]
  unfold splN
  split
  · have h4 := vars_4 ‹_›
    have h16 := pow16 h4
    have := Nat.mul_le_mul h4 h16
    omega
  · omega
end Go.Proofs.Ytjfcgehmeecnfaa
