/- SplitCubes: the reference's side, whole (no claim of its own). Conditions: as each theorem states. -/
import Derived.Test.YtjfcgehmeecnfaaCbsS
import Derived.Test.YtjfcgehmeecnfaaCbsP
namespace Go.Proofs.Ytjfcgehmeecnfaa
open Go.ChangeShapes Go.WideShapes Go.ChangeAt Go.RowKit

set_option linter.unusedVariables false in
set_option maxRecDepth 100000 in
set_option maxHeartbeats 3200000 in
theorem specSplit_any (A : Option Addr) (n cap : Nat) (c : Nat → Int) (w : World) (hn : n ≤ 1048576) (hr : RdI w w.heap.size A n c) :
    Calls Try.prog 16 #[.slice A n cap] w (SplRes w n c) := by
  cases hv : varsB n c with
  | false =>
    have Hv := Lib.hid hv
    clear hv
    go_enter Try.func16, Try.ntmps16
    go_wp2_with fail
    refine (l12Vars_any _ _ _ c _ hn hr).mono ?_
    rintro e w1 ⟨rfl, hb⟩
    rw [Hv.out]
    have HB1 := Lib.hid hb
    clear hb
    go_wp2
    go_ret2
    exact splRes_no Hv.out (bl_alloc HB1.out _)
  | true =>
    have Hv := Lib.hid hv
    have h4 := vars_4 hv
    have HBd := Lib.hid (vars_bd hv)
    clear hv
    go_enter Try.func16, Try.ntmps16
    go_wp2_with fail
    refine (l12Vars_any _ _ _ c _ hn hr).mono ?_
    rintro e w1 ⟨rfl, hb⟩
    rw [Hv.out]
    have HB1 := Lib.hid hb
    clear hb
    go_wp2_with fail
    refine (l12Cubes_any _ _ _ c _ h4 HBd.out (hr.later HB1.out)).mono ?_
    rintro e w3 ⟨A3, cap3, rfl, hF, hb⟩
    have HF := Lib.hid (hF.more HB1.out.size)
    have HB3 := Lib.hid (bl_trans HB1.out hb)
    clear hb hF
    go_wp2
    go_ret2
    exact splRes_yes Hv.out HF.out HB3.out
end Go.Proofs.Ytjfcgehmeecnfaa
