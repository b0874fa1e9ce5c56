/- Contracts of the model's and the program's EvalConstraint (no claim of its own). Conditions: as each theorem states. -/
import Derived.Test.YtbebdhjhlheboaaSumD
import Derived.Test.YtbebdhjhlheboaaBoolA
namespace Go.Proofs.Ytbebdhjhlheboaa
open Go.ChangeShapes Go.WideShapes Go.ChangeAt Go.RowKit Go.Shelf

/-- A literal is true under the values. -/
def trueP (v : Nat → Bool) (l : Int) : Bool := if 0 < l then v (l - 1).toNat else !v (-l - 1).toNat

set_option maxHeartbeats 400000 in
theorem litNegated_any (n : Int) (w : World) :
    Calls Try.prog 110 #[.int .i64 n] w fun e w' => e = .returned (.bool (decide (n < 0))) ∧ w' = w := by
  go_enter Try.func110, Try.ntmps110
  go_wp2
  go_ret
  exact ⟨rfl, rfl⟩

theorem litVariable_same (n : Int) (w : World) (h0 : -12 ≤ n) (h1 : n ≤ 12) :
    Calls Try.prog 97 #[.int .i64 n] w fun e w' => e = .returned (.int .i64 (ab n)) ∧ w' = w :=
  (litVariable_any n w h0 h1).mono fun _ _ ⟨he, hw⟩ => ⟨he, hw.symm⟩

set_option maxRecDepth 100000 in
set_option maxHeartbeats 400000 in
theorem trueUnder_any (A : Option Addr) (cap : Nat) (v : Nat → Bool) (n : Int) (w : World) (hl : litB n = true) (hr : RdB w w.heap.size A 12 v) :
    Calls Try.prog 80 #[.int .i64 n, .slice A 12 cap] w fun e w' => e = .returned (.bool (trueP v n)) ∧ ∃ m, w' = w.drewN m := by
  obtain ⟨h0, h1, h2⟩ := litB_iff.1 hl
  obtain ⟨b, off, rfl, _, hc⟩ := hr (by omega)
  obtain ⟨i, hi, hab⟩ : ∃ i : Nat, i < 12 ∧ ab n = (i : Int) + 1 := ⟨(ab n - 1).toNat, by have := ab_pos hl; omega, by have := ab_pos hl; omega⟩
  have hci := hc i hi
  have hfin : trueP v n = (v i != decide (n < 0)) := by
    unfold trueP
    unfold ab at hab
    by_cases hp : 0 < n
    · rw [if_pos hp, decide_eq_false (by omega)]
      rw [if_neg (by omega)] at hab
      rw [show (n - 1).toNat = i by omega]
      cases v i <;> rfl
    · rw [if_neg hp, decide_eq_true (by omega)]
      rw [if_pos (by omega)] at hab
      rw [show (-n - 1).toNat = i by omega]
      cases v i <;> rfl
  have Hfin := Lib.hid hfin
  have hva := fun W => litVariable_same n W h1 h2
  rw [hab] at hva
  have Hva := Lib.hid hva
  have hi0 : (0 : Int) ≤ (i : Int) := by omega
  have hi1 : (i : Int) < 12 := by omega
  clear hc hfin h0 hl hab hva
  go_enter Try.func80, Try.ntmps80
  go_wp2_with fail
  have hwi : IntKind.i64.wrap (i : Int) = i := IntWalk.i64_in _ (by omega)
  go_quiet ((first | (go_at_call 97; exact Calls.quiet_of_same (Hva.out _)) | (go_at_call 110; exact Calls.quiet_of_same (litNegated_any _ _))))
  clear hwi
  go_wp2
  go_ret
  exact ⟨ret_bool Hfin.out.symm, _, rfl⟩

set_option maxHeartbeats 400000 in
theorem holds_any (Bv : Nat) (A : Option Addr) (cap : Nat) (v : Nat → Bool) (n : Int) (w : World) (hl : litB n = true) (hv : w.cell? ⟨Bv, 0, none⟩ = some (.slice A 12 cap)) (hr : RdB w w.heap.size A 12 v) :
    Calls Try.prog 79 #[.int .i64 n, .pointer (some ⟨Bv, 0, none⟩)] w fun e w' => e = .returned (.bool (trueP v n)) ∧ ∃ m, w' = w.drewN m := by
  have Hl := Lib.hid hl
  clear hl
  go_enter Try.func79, Try.ntmps79
  go_wp2_with fail
  refine (trueUnder_any _ _ v _ _ Hl.out hr).mono ?_
  rintro e w1 ⟨rfl, m, rfl⟩
  go_wp2
  go_ret
  exact ⟨rfl, m, rfl⟩

/-- The sum of the coefficients of the true literals. -/
def evW (c l : Nat → Int) (v : Nat → Bool) (n : Nat) : Int := sumW (sel c l (trueP v) n)

theorem sumHolds_any (B1 Bv : Nat) (A Av : Option Addr) (len cap capv : Nat) (c l : Nat → Int) (bd : Int) (v : Nat → Bool) (hlen : len ≤ 1048576) (w : World) (hval : validB len c l bd = true)
    (hB1 : B1 + 1 < w.heap.size) (ht : w.cell? ⟨B1, 0, none⟩ = some (.slice A len cap)) (hc : w.cell? ⟨B1 + 1, 0, none⟩ = some (.func (.func 79) #[] #[.pointer (some ⟨Bv, 0, none⟩)])) (hr : Rd w w.heap.size A len c l)
    (hv : w.cell? ⟨Bv, 0, none⟩ = some (.slice Av 12 capv)) (hrv : RdB w w.heap.size Av 12 v) :
    Calls Try.prog 81 #[.func (.func 111) #[] #[.pointer (some ⟨B1, 0, none⟩), .pointer (some ⟨B1 + 1, 0, none⟩)]] w fun e W' => e = .returned (.int .i64 (evW c l v len)) ∧ Below w.heap.size w W' :=
  (callsIn_wide (n := 6)).1 (sumOf_in Fence.wide 6 trivial trivial rfl (by omega) B1 A len cap c l hlen 79 #[.pointer (some ⟨Bv, 0, none⟩)] (trueP v) trivial (enters_of Try.func79 (by kernel_rfl) rfl) w
    (fun k X hk hX => callsIn_wide.2 (holds_any Bv Av capv v (l k) X (litAt hval hk) (kc hX hv) (hrv.later hX))) hB1 ht hc hr)
end Go.Proofs.Ytbebdhjhlheboaa
