/- Sets of values as bits (no claim of its own). Conditions: as each theorem states. -/
import Derived.Test.YtgjjcikdbpjajaaMdlF
namespace Go.Proofs.Ytgjjcikdbpjajaa
open Go.ChangeShapes Go.WideShapes Go.ChangeAt Go.RowKit

/-- The bits of the first k Booleans. -/
def msk (x : Nat → Bool) : Nat → Int
  | 0 => 0
  | k + 1 => msk x k + if x k then ((2 ^ k : Nat) : Int) else 0
theorem msk_yes {x : Nat → Bool} {k : Nat} (h : x k = true) : msk x (k + 1) = msk x k + ((2 ^ k : Nat) : Int) := by show msk x k + _ = _; rw [if_pos h]
theorem msk_no {x : Nat → Bool} {k : Nat} (h : x k = false) : msk x (k + 1) = msk x k := by show msk x k + _ = _; rw [if_neg (by rw [h]; simp)]; omega
theorem msk_bd (x : Nat → Bool) (k : Nat) : 0 ≤ msk x k ∧ msk x k < ((2 ^ k : Nat) : Int) := by
  induction k with
  | zero => exact ⟨Int.le_refl _, by show (0:Int) < 1; omega⟩
  | succ k ih =>
    have e : ((2 ^ (k + 1) : Nat) : Int) = 2 * ((2 ^ k : Nat) : Int) := by rw [Nat.pow_succ]; omega
    cases h : x k with
    | true => rw [msk_yes h, e]; omega
    | false => rw [msk_no h, e]; omega

theorem or_fin : ∀ k : Fin 4, ∀ z : Fin 8, z.val < 2 ^ k.val → bits .or .u64 ((z.val : Nat) : Int) (IntKind.u64.wrap (2 ^ k.val)) = ((z.val : Nat) : Int) + ((2 ^ k.val : Nat) : Int) := by decide +kernel
theorem or_bit {z : Int} {k : Nat} (hz : 0 ≤ z ∧ z < ((2 ^ k : Nat) : Int)) (hk : k < 4) : bits .or .u64 z (IntKind.u64.wrap (2 ^ k)) = z + ((2 ^ k : Nat) : Int) := by
  obtain ⟨y, rfl⟩ := Int.eq_ofNat_of_zero_le hz.1
  have h2 : y < 2 ^ k := by have := hz.2; omega
  have h3 : (2 : Nat) ^ k ≤ 2 ^ 3 := Nat.pow_le_pow_right (by omega) (by omega)
  exact or_fin ⟨k, hk⟩ ⟨y, by omega⟩ h2
theorem and_fin : ∀ k : Fin 4, ∀ z : Fin 16, (bits .and .u64 (((z.val : Nat) : Int) / 2 ^ k.val) 1 == 1) = (z.val / 2 ^ k.val % 2 == 1) := by decide +kernel
/-- The bits as a natural number. -/
def mskN (x : Nat → Bool) : Nat → Nat
  | 0 => 0
  | k + 1 => mskN x k + if x k then 2 ^ k else 0
theorem msk_N (x : Nat → Bool) (k : Nat) : msk x k = (mskN x k : Int) := by
  induction k with
  | zero => rfl
  | succ k ih => show msk x k + _ = ((mskN x k + _ : Nat) : Int); rw [ih]; split <;> simp
theorem mskN_bit {x : Nat → Bool} {n k : Nat} (hn : n ≤ 4) (hk : k < n) : (mskN x n / 2 ^ k % 2 == 1) = x k := by
  have h1 : n = 1 ∨ n = 2 ∨ n = 3 ∨ n = 4 := by omega
  have h2 : k = 0 ∨ k = 1 ∨ k = 2 ∨ k = 3 := by omega
  cases h0 : x 0 <;> cases h3 : x 1 <;> cases h4 : x 2 <;> cases h5 : x 3 <;> rcases h1 with rfl | rfl | rfl | rfl <;> rcases h2 with rfl | rfl | rfl | rfl <;> first | (exfalso; omega) | (simp only [mskN, h0, h3, h4, h5]; rfl)
theorem msk_zero {x : Nat → Bool} {n : Nat} : msk x n = 0 ↔ ∀ i, i < n → x i = false := by
  induction n with
  | zero => exact ⟨fun _ i hi => absurd hi (by omega), fun _ => rfl⟩
  | succ n ih =>
    have hb := msk_bd x n
    have hp : 0 < ((2 ^ n : Nat) : Int) := by have := Nat.two_pow_pos n; omega
    cases h : x n with
    | true =>
      rw [msk_yes h]
      exact ⟨fun e => by omega, fun e => by rw [e n (by omega)] at h; cases h⟩
    | false =>
      rw [msk_no h, ih]
      refine ⟨fun e i hi => ?_, fun e i hi => e i (by omega)⟩
      by_cases hin : i = n
      · subst hin; exact h
      · exact e i (by omega)

set_option maxRecDepth 100000 in
set_option maxHeartbeats 800000 in
theorem with_any (z : Int) (k : Nat) (w : World) (hz : 0 ≤ z ∧ z < ((2 ^ k : Nat) : Int)) (hk : k < 4) :
    Calls Try.prog 116 #[.int .u64 z, .int .i64 k] w fun e w' => e = .returned (.int .u64 (z + ((2 ^ k : Nat) : Int))) ∧ w = w' := by
  go_enter Try.func116, Try.ntmps116
  go_wp2
  go_ret
  exact ⟨congrArg (fun v => Ending.returned (.int .u64 v)) (or_bit hz hk), rfl⟩

set_option maxRecDepth 100000 in
set_option maxHeartbeats 800000 in
theorem has_any (x : Nat → Bool) (n k : Nat) (w : World) (hn : n ≤ 4) (hk : k < n) :
    Calls Try.prog 118 #[.int .u64 (msk x n), .int .i64 k] w fun e w' => e = .returned (.bool (x k)) ∧ w = w' := by
  go_enter Try.func118, Try.ntmps118
  go_wp2
  go_ret
  refine ⟨congrArg (fun v => Ending.returned (.bool v)) ?_, rfl⟩
  rw [msk_N]
  have h1 := msk_bd x n
  rw [msk_N] at h1
  have h3 : (2 : Nat) ^ n ≤ 2 ^ 4 := Nat.pow_le_pow_right (by omega) hn
  exact (and_fin ⟨k, by omega⟩ ⟨mskN x n, by omega⟩).trans (mskN_bit hn hk)
end Go.Proofs.Ytgjjcikdbpjajaa
