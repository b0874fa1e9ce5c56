/- The walk of the exact law of CubeHolds (no claim of its own). Conditions: as each theorem states. -/
import Derived.Test.YtjfcgehmeecnfaaCubH
namespace Go.Proofs.Ytjfcgehmeecnfaa
open Go.ChangeShapes Go.WideShapes Go.ChangeAt Go.RowKit

set_option maxRecDepth 100000 in
set_option maxHeartbeats 3200000 in
theorem lawCubeHolds_walk (A0 : Option Addr) (n0 cap0 : Nat) (c0 : Nat → Int) (A1 : Option Addr) (n1 cap1 : Nat) (c1 : Nat → Bool) (w : World) (hm0 : n0 ≤ maxLen) (hr0 : RdI w w.heap.size A0 n0 c0) (hm1 : n1 ≤ maxLen) (hr1 : RdB w w.heap.size A1 n1 c1) :
    Calls Try.prog 3 #[.slice A0 n0 cap0, .slice A1 n1 cap1] w fun e w' => e = .returned (.bool true) ∧ Below w.heap.size w w' := by
  by_cases h0 : n0 ≤ 1048576
  · by_cases h1 : n1 ≤ 1048576
    · go_enter Try.func3, Try.ntmps3
      go_wp2_with fail
      refine (toIntS_any _ _ _ c0 _ h0 hr0).mono ?_
      rintro e wa0 ⟨Ga0, rfl, hGa0, hoa0, hb⟩
      clear hGa0
      have HB1 := Lib.hid hb
      have Oa0_0 := Lib.hid hoa0
      clear hb hoa0
      go_wp2_with fail
      refine (toBoolS_any _ _ _ c1 _ h1 (hr1.later HB1.out)).mono ?_
      rintro e wa1 ⟨Ga1, rfl, hGa1, hoa1, hb⟩
      clear hGa1
      have HB2 := Lib.hid (bl_trans HB1.out hb)
      have Oa0_1 := Lib.hid (Oa0_0.out.below hb Oa0_0.out.lt)
      have Oa1_0 := Lib.hid hoa1
      clear hb Oa0_0 hoa1 HB1
      go_wp2_with fail
      refine (specHolds_any _ _ _ _ _ _ c0 c1 _ h0 h1 Oa0_1.out.rdAt Oa1_0.out.rdAt).mono ?_
      rintro e ws ⟨rfl, hb⟩
      have HB3 := Lib.hid (bl_trans HB2.out hb)
      clear hb Oa0_1 Oa1_0 HB2
      go_wp2_with fail
      refine (toIntS_any _ _ _ c0 _ h0 (hr0.later HB3.out)).mono ?_
      rintro e wx0 ⟨Gx0, rfl, hGx0, hox0, hb⟩
      clear hGx0
      have HB4 := Lib.hid (bl_trans HB3.out hb)
      have Ox0_0 := Lib.hid hox0
      clear hb hox0 HB3
      go_wp2_with fail
      refine (toBoolS_any _ _ _ c1 _ h1 (hr1.later HB4.out)).mono ?_
      rintro e wx1 ⟨Gx1, rfl, hGx1, hox1, hb⟩
      clear hGx1
      have HB5 := Lib.hid (bl_trans HB4.out hb)
      have Ox0_1 := Lib.hid (Ox0_0.out.below hb Ox0_0.out.lt)
      have Ox1_0 := Lib.hid hox1
      clear hb Ox0_0 hox1 HB4
      go_wp2_with fail
      refine (implHolds_any _ _ _ _ _ _ c0 c1 _ h0 h1 Ox0_1.out.rdAt Ox1_0.out.rdAt).mono ?_
      rintro e wi ⟨rfl, hb⟩
      have HB6 := Lib.hid (bl_trans HB5.out hb)
      have Ox0_2 := Lib.hid (Ox0_1.out.below hb Ox0_1.out.lt)
      have Ox1_1 := Lib.hid (Ox1_0.out.below hb Ox1_0.out.lt)
      clear hb Ox0_1 Ox1_0 HB5
      go_wp2_with fail
      refine (toIntS_any _ _ _ c0 _ h0 (hr0.later HB6.out)).mono ?_
      rintro e wy0 ⟨Gy0, rfl, hGy0, hoy0, hb⟩
      clear hGy0
      have HB7 := Lib.hid (bl_trans HB6.out hb)
      have Ox0_3 := Lib.hid (Ox0_2.out.below hb Ox0_2.out.lt)
      have Ox1_2 := Lib.hid (Ox1_1.out.below hb Ox1_1.out.lt)
      have Oy0_0 := Lib.hid hoy0
      clear hb Ox0_2 Ox1_1 hoy0 HB6
      go_wp2_with fail
      refine (eqIntS_refl _ _ _ _ _ c0 _ h0 Ox0_3.out.rdAt Oy0_0.out.rdAt).mono ?_
      rintro e wq0 ⟨rfl, hb⟩
      have HB8 := Lib.hid (bl_trans HB7.out hb)
      have Ox1_3 := Lib.hid (Ox1_2.out.below hb Ox1_2.out.lt)
      clear hb Ox0_3 Ox1_2 Oy0_0 HB7
      go_wp2_with fail
      refine (toBoolS_any _ _ _ c1 _ h1 (hr1.later HB8.out)).mono ?_
      rintro e wy1 ⟨Gy1, rfl, hGy1, hoy1, hb⟩
      clear hGy1
      have HB9 := Lib.hid (bl_trans HB8.out hb)
      have Ox1_4 := Lib.hid (Ox1_3.out.below hb Ox1_3.out.lt)
      have Oy1_0 := Lib.hid hoy1
      clear hb Ox1_3 hoy1 HB8
      go_wp2_with fail
      refine (eqBoolS_refl _ _ _ _ _ c1 _ h1 Ox1_4.out.rdAt Oy1_0.out.rdAt).mono ?_
      rintro e wq1 ⟨rfl, hb⟩
      have HB10 := Lib.hid (bl_trans HB9.out hb)
      clear hb Ox1_4 Oy1_0 HB9
      go_wp2
      go_ret
      exact ⟨rfl, HB10.out⟩
    · unfold maxLen at hm1
      go_enter Try.func3, Try.ntmps3
      go_wp2
      go_ret
      exact ⟨rfl, Below.refl _ _⟩
  · unfold maxLen at hm0
    go_enter Try.func3, Try.ntmps3
    go_wp2
    go_ret
    exact ⟨rfl, Below.refl _ _⟩
end Go.Proofs.Ytjfcgehmeecnfaa
