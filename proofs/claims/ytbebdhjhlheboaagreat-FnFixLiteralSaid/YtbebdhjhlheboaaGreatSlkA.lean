/- Contracts of the model's SlackOf (no claim of its own). Conditions: as each theorem states. -/
import Derived.Test.YtbebdhjhlheboaaGreatParB
namespace Go.Proofs.YtbebdhjhlheboaaGreat
open Go.ChangeShapes Go.WideShapes Go.ChangeAt Go.RowKit Go.Shelf

set_option maxHeartbeats 800000 in
theorem l3State_any (A : Option Addr) (cap : Nat) (v : Nat → Int) (n : Int) (w : World) (hl : litB n = true) (hr : RdI w w.heap.size A 12 v) (hv : ∀ i, i < 12 → -1 ≤ v i ∧ v i ≤ 1) :
    Calls Tryz.prog 58 #[.slice A 12 cap, .int .i64 n] w fun e w' => e = .returned (.int .i64 (stV v n)) ∧ w = w' := by
  obtain ⟨h0, h1, h2⟩ := litB_iff.1 hl
  obtain ⟨b, off, rfl, _, hc⟩ := hr (by omega)
  by_cases hp : 0 < n
  · obtain ⟨i, hi, rfl⟩ : ∃ i : Nat, i < 12 ∧ n = (i : Int) + 1 := ⟨(n - 1).toNat, by omega, by omega⟩
    have hci := hc i hi
    have hfin : stV v ((i : Int) + 1) = v i := by
      unfold stV
      rw [if_pos hp]
      congr 1
      omega
    have Hfin := Lib.hid hfin
    clear hc hfin h0 hl hv
    go_enter Tryz.func58, Tryz.ntmps58
    go_wp2
    go_ret
    exact ⟨ret_int Hfin.out.symm, rfl⟩
  · obtain ⟨i, hi, rfl⟩ : ∃ i : Nat, i < 12 ∧ n = -((i : Int) + 1) := ⟨(-n - 1).toNat, by omega, by omega⟩
    have hci := hc i hi
    obtain ⟨hv0, hv1⟩ := hv i hi
    have hfin : stV v (-((i : Int) + 1)) = -(v i) := by
      unfold stV
      rw [if_neg hp]
      congr 2
      omega
    have Hfin := Lib.hid hfin
    have hw1 : IntKind.i64.wrap (- -((i : Int) + 1)) = (i : Int) + 1 := by rw [IntWalk.i64_in _ (by omega)]; omega
    clear hc hfin h0 hl hv
    go_enter Tryz.func58, Tryz.ntmps58
    go_wp2
    go_ret
    exact ⟨ret_int (by rw [Hfin.out]), rfl⟩

theorem litAt' {n : Nat} {c l : Nat → Int} {bd : Int} (h : validB n c l bd = true) {k : Nat} (hk : k < n) : litB (l k) = true := litAt h hk

/-- What a function that answers an int and a Boolean leaves. -/
def IRes (w : World) (x : Int) (ok : Bool) (e : Ending) (w' : World) : Prop := e = .returned (.tuple #[.int .i64 x, .bool ok]) ∧ Below w.heap.size w w'
theorem slk_inv {n : Nat} {c l : Nat → Int} {bd : Int} {nv : Nat} {v : Nat → Int} (h : slkOk n c l bd nv v = false) : slkV n c l bd nv v = 0 := by unfold slkV; rw [h]; rfl
theorem slk_yes {n : Nat} {c l : Nat → Int} {bd : Int} {nv : Nat} {v : Nat → Int} (h : slkOk n c l bd nv v = true) : slkV n c l bd nv v = slk n c l bd v := by unfold slkV; rw [h]; rfl

end Go.Proofs.YtbebdhjhlheboaaGreat
