/- The walk of the exact law of PartialValid (no claim of its own). Conditions: as each theorem states. -/
import Derived.Test.YtgfofdcggbkeeaaParB
namespace Go.Proofs.Ytgfofdcggbkeeaa
open Go.ChangeShapes Go.WideShapes Go.ChangeAt Go.RowKit

set_option maxRecDepth 100000 in
set_option maxHeartbeats 1600000 in
theorem lawPartialValid_walk (A : Option Addr) (n cap : Nat) (v : Nat → Int) (w : World) (hm : n ≤ maxLen) (hr : RdI w w.heap.size A n v) :
    Calls Try.prog 3 #[.slice A n cap] w fun e w' => e = .returned (.bool true) ∧ Below w.heap.size w w' := by
  unfold maxLen at hm
  by_cases h : n ≤ 1048576
  · go_enter Try.func3, Try.ntmps3
    go_wp2_with fail
    refine (toIntS_any _ _ _ v _ h hr).mono ?_
    rintro e w1 ⟨G1, rfl, hG1, ho1, hb⟩
    have HB1 := Lib.hid hb
    have O1 := Lib.hid ho1
    clear hb hG1 ho1
    go_wp2_with fail
    refine (specPartial_any _ _ _ v _ h O1.out.rdAt).mono ?_
    rintro e w' ⟨rfl, hw⟩
    replace hw := hw.symm
    subst hw
    go_wp2_with fail
    refine (toIntS_any _ _ _ v _ h (hr.later HB1.out)).mono ?_
    rintro e w2 ⟨G2, rfl, hG2, ho2, hb⟩
    have HB2 := Lib.hid (bl_trans HB1.out hb)
    have O2 := Lib.hid ho2
    clear hb hG2 ho2 O1 HB1
    go_wp2_with fail
    refine (implPartial_any _ _ _ v _ h O2.out.rdAt).mono ?_
    rintro e w' ⟨rfl, hw⟩
    replace hw := hw.symm
    subst hw
    go_wp2_with fail
    refine (toIntS_any _ _ _ v _ h (hr.later HB2.out)).mono ?_
    rintro e w3 ⟨G3, rfl, hG3, ho3, hb⟩
    have HB3 := Lib.hid (bl_trans HB2.out hb)
    have O3 := Lib.hid ho3
    have O4 := Lib.hid (O2.out.below hb O2.out.lt)
    clear hb hG3 ho3 HB2 O2
    go_wp2_with fail
    refine (eqIntS_refl _ _ _ _ _ v _ h O4.out.rdAt O3.out.rdAt).mono ?_
    rintro e w4 ⟨rfl, hb⟩
    have HB4 := Lib.hid (bl_trans HB3.out hb)
    clear hb HB3 O3 O4
    go_wp2
    go_ret
    exact ⟨rfl, HB4.out⟩
  · go_enter Try.func3, Try.ntmps3
    go_wp2
    go_ret
    exact ⟨rfl, Below.refl _ _⟩
end Go.Proofs.Ytgfofdcggbkeeaa
