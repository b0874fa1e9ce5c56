/- ModelValid: the program's side, a rule as a type of its kind (no claim of its own). Conditions: as each theorem states. -/
import Derived.Test.YtafiikfaeomhpaaMvpD
namespace Go.Proofs.Ytafiikfaeomhpaa
open Go.ChangeShapes Go.WideShapes Go.ChangeAt Go.RowKit

/-- A rule as a value of its kind's type. -/
def tyV (k : Int) (a : Value) : Value := if k = 1 then .iface 154 a else if k = 2 then .iface 155 a else if k = 3 then .iface 156 a else if k = 4 then .iface 157 a else Value.nilIface
theorem ret_val {a b : Value} (h : a = b) : Ending.returned a = .returned b := by rw [h]

set_option maxRecDepth 100000 in
set_option maxHeartbeats 1600000 in
theorem typed_any (k bd : Int) (v c : Lst) (n : Nat) (Av Ac Ar : Option Addr) (cv cc cr : Nat) (w : World) :
    Calls Try.prog 109 #[.agg #[.int .i64 k, .slice Av v.n cv, .slice Ac c.n cc, .int .i64 bd, .slice Ar n cr]] w fun e w' => e = .returned (tyV k (.agg #[.int .i64 k, .slice Av v.n cv, .slice Ac c.n cc, .int .i64 bd, .slice Ar n cr])) ∧ Below w.heap.size w w' := by
  have HA := Lib.hid (bl_alloc (Below.refl w.heap.size w))
  by_cases k1 : k = 1
  · subst k1
    have Hd := Lib.hid (show ∀ a, tyV 1 a = .iface 154 a from fun a => rfl)
    go_enter Try.func109, Try.ntmps109
    go_wp2
    go_ret
    exact ⟨ret_val (Hd.out _).symm, HA.out _⟩
  have b1 : (k == 1) = false := by simpa using k1
  by_cases k2 : k = 2
  · subst k2
    have Hd := Lib.hid (show ∀ a, tyV 2 a = .iface 155 a from fun a => rfl)
    go_enter Try.func109, Try.ntmps109
    go_wp2
    go_ret
    exact ⟨ret_val (Hd.out _).symm, HA.out _⟩
  have b2 : (k == 2) = false := by simpa using k2
  by_cases k3 : k = 3
  · subst k3
    have Hd := Lib.hid (show ∀ a, tyV 3 a = .iface 156 a from fun a => rfl)
    go_enter Try.func109, Try.ntmps109
    go_wp2
    go_ret
    exact ⟨ret_val (Hd.out _).symm, HA.out _⟩
  have b3 : (k == 3) = false := by simpa using k3
  by_cases k4 : k = 4
  · subst k4
    have Hd := Lib.hid (show ∀ a, tyV 4 a = .iface 157 a from fun a => rfl)
    go_enter Try.func109, Try.ntmps109
    go_wp2
    go_ret
    exact ⟨ret_val (Hd.out _).symm, HA.out _⟩
  have b4 : (k == 4) = false := by simpa using k4
  have Hd := Lib.hid (show ∀ a, tyV k a = Value.nilIface from fun a => by simp [tyV, k1, k2, k3, k4])
  go_enter Try.func109, Try.ntmps109
  go_wp2
  go_ret
  exact ⟨ret_val (Hd.out _).symm, HA.out _⟩
end Go.Proofs.Ytafiikfaeomhpaa
