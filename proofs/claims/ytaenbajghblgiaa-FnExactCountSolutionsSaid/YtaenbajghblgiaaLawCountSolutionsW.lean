/- The walk of the exact law of CountSolutions (no claim of its own). Conditions: as each theorem states. -/
import Derived.Test.YtaenbajghblgiaaSrcH
namespace Go.Proofs.Ytaenbajghblgiaa
open Go.ChangeShapes Go.WideShapes Go.ChangeAt Go.RowKit

set_option maxRecDepth 100000 in
set_option maxHeartbeats 3200000 in
theorem lawCountSolutions_walk (A0 : Option Addr) (n0 cap0 : Nat) (c0 : Nat → Con) (w : World) (hm0 : n0 ≤ maxLen) (hk0 : ∀ i, i < n0 → (c0 i).n ≤ maxLen) (hr0 : RdP w w.heap.size A0 n0 c0) :
    Calls Try.prog 3 #[.slice A0 n0 cap0] w fun e w' => e = .returned (.bool true) ∧ Below w.heap.size w w' := by
  by_cases g0 : (n0 : Int) + tot c0 n0 ≤ 1048576
  · have h0 : n0 ≤ 1048576 := by omega
    have hn0 : ∀ i, i < n0 → (c0 i).n ≤ 1048576 := fun i hi => by have := tot_at c0 hi; omega
    have hge0 : ¬ ((1048576 : Int) - n0 - tot c0 n0 < 0) := by omega
    have HN0 := Lib.hid hn0
    clear hn0 hk0
    go_enter Try.func3, Try.ntmps3
    go_wp2_with fail
    refine (szConstraintS_ok _ _ _ c0 _ _ (by omega) (by omega) g0 hr0).mono ?_
    rintro e w0 ⟨rfl, hb⟩
    have HB1 := Lib.hid hb
    clear hb 
    go_wp2_with fail
    refine (toConstraintS_any _ _ _ c0 _ h0 HN0.out (hr0.later HB1.out)).mono ?_
    rintro e wa0 ⟨Ga0, rfl, hGa0, hoa0, hb⟩
    clear hGa0
    have HB2 := Lib.hid (bl_trans HB1.out hb)
    have Oa0_0 := Lib.hid hoa0
    clear hb hoa0 HB1
    go_wp2_with fail
    refine (specCount_any _ _ _ c0 _ h0 HN0.out Oa0_0.out.rdAt).mono ?_
    rintro e ws ⟨rfl, hb⟩
    have HB3 := Lib.hid (bl_trans HB2.out hb)
    clear hb Oa0_0 HB2
    go_wp2_with fail
    refine (toConstraintS_any _ _ _ c0 _ h0 HN0.out (hr0.later HB3.out)).mono ?_
    rintro e wx0 ⟨Gx0, rfl, hGx0, hox0, hb⟩
    clear hGx0
    have HB4 := Lib.hid (bl_trans HB3.out hb)
    have Ox0_0 := Lib.hid hox0
    clear hb hox0 HB3
    go_wp2_with fail
    refine (implCount_any _ _ _ c0 _ h0 HN0.out Ox0_0.out.rdAt).mono ?_
    rintro e wi ⟨rfl, hb⟩
    have HB5 := Lib.hid (bl_trans HB4.out hb)
    have Ox0_1 := Lib.hid (Ox0_0.out.below hb)
    clear hb Ox0_0 HB4
    go_wp2_with fail
    refine (toConstraintS_any _ _ _ c0 _ h0 HN0.out (hr0.later HB5.out)).mono ?_
    rintro e wy0 ⟨Gy0, rfl, hGy0, hoy0, hb⟩
    clear hGy0
    have HB6 := Lib.hid (bl_trans HB5.out hb)
    have Ox0_2 := Lib.hid (Ox0_1.out.below hb)
    have Oy0_0 := Lib.hid hoy0
    clear hb Ox0_1 hoy0 HB5
    go_wp2_with fail
    refine (eqConstraintS_refl _ _ _ _ _ c0 _ h0 HN0.out Ox0_2.out.rdAt Oy0_0.out.rdAt).mono ?_
    rintro e wq0 ⟨rfl, hb⟩
    have HB7 := Lib.hid (bl_trans HB6.out hb)
    clear hb Ox0_2 Oy0_0 HB6
    go_wp2
    go_ret
    exact ⟨rfl, HB7.out⟩
  · have HM := Lib.hid hk0
    clear hk0
    go_enter Try.func3, Try.ntmps3
    go_wp2_with fail
    refine (szConstraintS_no _ _ _ c0 _ _ (by omega) (by omega) (by omega) hm0 HM.out hr0).mono ?_
    rintro e w0 ⟨rfl, hb⟩
    have HB := Lib.hid hb
    clear hb
    go_wp2
    go_ret
    exact ⟨rfl, HB.out⟩
end Go.Proofs.Ytaenbajghblgiaa
