/- Contracts of the model's and the program's EvalConstraint (no claim of its own). Conditions: as each theorem states. -/
import Derived.Test.YtnfkhakgikbbeaaSumD
import Derived.Test.YtnfkhakgikbbeaaBoolA
namespace Go.Proofs.Ytnfkhakgikbbeaa
open Go.ChangeShapes Go.WideShapes Go.ChangeAt Go.RowKit Go.Shelf

/-- A literal is true under the values. -/
def trueP (v : Nat → Bool) (l : Int) : Bool := if 0 < l then v (l - 1).toNat else !v (-l - 1).toNat

set_option maxHeartbeats 400000 in
theorem l1True_any (A : Option Addr) (cap : Nat) (v : Nat → Bool) (n : Int) (w : World) (hl : litB n = true) (hr : RdB w w.heap.size A 12 v) :
    Calls Try.prog 64 #[.slice A 12 cap, .int .i64 n] w fun e w' => e = .returned (.bool (trueP v n)) ∧ w = w' := by
  obtain ⟨h0, h1, h2⟩ := litB_iff.1 hl
  obtain ⟨b, off, rfl, _, hc⟩ := hr (by omega)
  by_cases hp : 0 < n
  · obtain ⟨i, hi, rfl⟩ : ∃ i : Nat, i < 12 ∧ n = (i : Int) + 1 := ⟨(n - 1).toNat, by omega, by omega⟩
    have hci := hc i hi
    have hfin : trueP v ((i : Int) + 1) = v i := by
      unfold trueP
      rw [if_pos hp]
      congr 1
      omega
    have Hfin := Lib.hid hfin
    clear hc hfin h0 hl
    go_enter Try.func64, Try.ntmps64
    go_wp2
    go_ret
    exact ⟨ret_bool Hfin.out.symm, rfl⟩
  · obtain ⟨i, hi, rfl⟩ : ∃ i : Nat, i < 12 ∧ n = -((i : Int) + 1) := ⟨(-n - 1).toNat, by omega, by omega⟩
    have hci := hc i hi
    have hfin : trueP v (-((i : Int) + 1)) = !v i := by
      unfold trueP
      rw [if_neg hp]
      congr 2
      omega
    have Hfin := Lib.hid hfin
    have hw1 : IntKind.i64.wrap (- -((i : Int) + 1)) = (i : Int) + 1 := by rw [IntWalk.i64_in _ (by omega)]; omega
    clear hc hfin h0 hl
    go_enter Try.func64, Try.ntmps64
    go_wp2
    go_ret
    exact ⟨ret_bool Hfin.out.symm, rfl⟩

set_option maxHeartbeats 400000 in
theorem litNegated_any (n : Int) (w : World) :
    Calls Try.prog 63 #[.int .i64 n] w fun e w' => e = .returned (.bool (decide (n < 0))) ∧ w' = w := by
  go_enter Try.func63, Try.ntmps63
  go_wp2
  go_ret
  exact ⟨rfl, rfl⟩

theorem litVariable_same (n : Int) (w : World) (h0 : -12 ≤ n) (h1 : n ≤ 12) :
    Calls Try.prog 51 #[.int .i64 n] w fun e w' => e = .returned (.int .i64 (ab n)) ∧ w' = w :=
  (litVariable_any n w h0 h1).mono fun _ _ ⟨he, hw⟩ => ⟨he, hw.symm⟩

/-- The sum of the coefficients of the true literals. -/
def evW (c l : Nat → Int) (v : Nat → Bool) (n : Nat) : Int := sumW (sel c l (trueP v) n)

end Go.Proofs.Ytnfkhakgikbbeaa
