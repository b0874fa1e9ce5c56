/- The walk of the exact law of FixLiteral (no claim of its own). Conditions: as each theorem states. -/
import Derived.Test.YtbebdhjhlheboaaFixL
import Derived.Test.YtbebdhjhlheboaaMkCs
import Derived.Test.YtbebdhjhlheboaaFbR
namespace Go.Proofs.Ytbebdhjhlheboaa
open Go.ChangeShapes Go.WideShapes Go.ChangeAt Go.RowKit

set_option linter.unusedVariables false in
set_option maxRecDepth 100000 in
set_option maxHeartbeats 6400000 in
theorem lawFixLiteral_walk (A0 : Option Addr) (n0 cap0 : Nat) (c0 : Nat → Con) (c1 : Int) (w : World) (hm0 : n0 ≤ maxLen) (hk0 : ∀ i, i < n0 → (c0 i).n ≤ maxLen) (hr0 : RdP w w.heap.size A0 n0 c0) (hw1 : (Lit.int .i64 c1).wf = true) :
    Calls Try.prog 4 #[.slice A0 n0 cap0, .int .i64 c1] w fun e w' => e = .returned (.bool true) ∧ Below w.heap.size w w' := by
  by_cases g0 : (n0 : Int) + tot c0 n0 ≤ 1048576
  · have h0 : n0 ≤ 1048576 := by omega
    have hn0 : ∀ i, i < n0 → (c0 i).n ≤ 1048576 := fun i hi => by have := tot_at c0 hi; omega
    have hge0 : ¬ ((1048576 : Int) - n0 - tot c0 n0 < 0) := by omega
    have HN0 := Lib.hid hn0
    clear hn0 hk0
    go_enter Try.func4, Try.ntmps4
    go_wp2_with fail
    refine (szConstraintS_ok _ _ _ c0 _ _ (by omega) (by omega) g0 hr0).mono ?_
    rintro e w0 ⟨rfl, hb⟩
    have HB1 := Lib.hid hb
    have q1 := hb.size
    clear hb 
    go_wp2_with fail
    refine (toConstraintS_any _ _ _ c0 _ h0 HN0.out (hr0.later HB1.out)).mono ?_
    rintro e wa0 ⟨Ga0, rfl, hGa0, hoa0, hb⟩
    have HB2 := Lib.hid (bl_trans HB1.out hb)
    have q2 := hb.size
    have Oa0_0 := Lib.hid (hoa0)
    clear hb  HB1
    clear hoa0
    go_wp2_with fail
    refine (specFxl_any _ _ _ c0 c1 _ h0 HN0.out Oa0_0.out.rdAt).mono ?_
    rintro e ws ⟨Aw, capw, rfl, hfw, hb⟩
    have HB3 := Lib.hid (bl_trans HB2.out hb)
    have q3 := hb.size
    have FW_0 := Lib.hid (FrC.two hfw)
    clear hb Oa0_0 HB2
    clear hfw
    go_wp2_with fail
    refine (toConstraintS_any _ _ _ c0 _ h0 HN0.out (hr0.later HB3.out)).mono ?_
    rintro e wx0 ⟨Gx0, rfl, hGx0, hox0, hb⟩
    have HB4 := Lib.hid (bl_trans HB3.out hb)
    have q4 := hb.size
    have FW_1 := Lib.hid (FW_0.out.below hb)
    have Ox0_0 := Lib.hid (hox0)
    have HX0_0 := Lib.hid (hox0.hd hGx0)
    clear hb FW_0 HB3
    have ltx0 := hox0.lt
    clear hox0
    go_wp2_with fail
    refine (implFxl_any _ _ _ c0 c1 _ h0 HN0.out Ox0_0.out.rdAt).mono ?_
    rintro e wi ⟨Ag, capg, rfl, hfg, hb⟩
    have HB5 := Lib.hid (bl_trans HB4.out hb)
    have q5 := hb.size
    have FW_2 := Lib.hid (FW_1.out.below hb)
    have Ox0_1 := Lib.hid (Ox0_0.out.below hb)
    have HX0_1 := Lib.hid (HX0_0.out.below hb)
    have FG_0 := Lib.hid (FrC.two hfg)
    clear hb FW_1 Ox0_0 HX0_0 HB4
    clear hfg
    have hN : fxlN n0 c0 c1 ≤ 1048576 := Nat.le_trans (fxlN_le _ _ _) (by omega)
    have HNr := Lib.hid (fxl_all n0 c0 c1)
    have hT := fxl_tot n0 c0 c1
    go_wp2_with fail
    refine (eqConstraintS_refl _ _ _ _ _ (fxlK c0 c1) _ hN HNr.out FG_0.out.rdAt FW_2.out.rdAt).mono ?_
    rintro e wq1 ⟨rfl, hb⟩
    have HB6 := Lib.hid (bl_trans HB5.out hb)
    have q6 := hb.size
    have FW_3 := Lib.hid (FW_2.out.below hb)
    have Ox0_2 := Lib.hid (Ox0_1.out.below hb)
    have HX0_2 := Lib.hid (HX0_1.out.below hb)
    have FG_1 := Lib.hid (FG_0.out.below hb)
    clear hb FW_2 Ox0_1 HX0_1 FG_0 HB5
    go_wp2_with fail
    refine (toConstraintS_any _ _ _ c0 _ h0 HN0.out (hr0.later HB6.out)).mono ?_
    rintro e wy0 ⟨Gy0, rfl, hGy0, hoy0, hb⟩
    have HB7 := Lib.hid (bl_trans HB6.out hb)
    have q7 := hb.size
    have FW_4 := Lib.hid (FW_3.out.below hb)
    have Ox0_3 := Lib.hid (Ox0_2.out.below hb)
    have HX0_3 := Lib.hid (HX0_2.out.below hb)
    have FG_2 := Lib.hid (FG_1.out.below hb)
    have Oy0_0 := Lib.hid (hoy0)
    clear hb FW_3 Ox0_2 HX0_2 FG_1 HB6
    clear hoy0
    go_wp2_with fail
    refine (eqConstraintS_refl _ _ _ _ _ c0 _ h0 HN0.out Ox0_3.out.rdAt Oy0_0.out.rdAt).mono ?_
    rintro e wqy0 ⟨rfl, hb⟩
    have HB8 := Lib.hid (bl_trans HB7.out hb)
    have q8 := hb.size
    have FW_5 := Lib.hid (FW_4.out.below hb)
    have HX0_4 := Lib.hid (HX0_3.out.below hb)
    have FG_3 := Lib.hid (FG_2.out.below hb)
    clear hb FW_4 Ox0_3 HX0_3 FG_2 Oy0_0 HB7
    go_wp2_with fail
    refine (markConstraintS_any ws.heap.size wx0.heap.size Gx0 _ _ c0 (1) _ g0 (by omega) (by omega) (by omega) ltx0 HX0_4.out).mono ?_
    rintro e wm0 ⟨rfl, hor, hsh⟩
    have HB9 := Lib.hid (hor.below HB8.out (by omega))
    have q9 := hor.size
    have FW_6 := Lib.hid (FW_5.out.onlyR hor (.inl (by omega)))
    have FG_4 := Lib.hid (FG_3.out.onlyR hor (.inr (by omega)))
    clear hor FW_5 HX0_4 FG_3 HB8
    clear hsh
    have hk1 : ¬ ((1 : Int) + (n0 : Int) + 2 * (tot c0 n0 : Int) < 0) := by omega
    go_wp2_with fail
    refine (eqConstraintS_refl _ _ _ _ _ (fxlK c0 c1) _ hN HNr.out FG_4.out.rdAt FW_6.out.rdAt).mono ?_
    rintro e wq4 ⟨rfl, hb⟩
    have HB10 := Lib.hid (bl_trans HB9.out hb)
    have q10 := hb.size
    have FW_7 := Lib.hid (FW_6.out.below hb)
    have FG_5 := Lib.hid (FG_4.out.below hb)
    clear hb FW_6 FG_4 HB9
    clear hk1
    go_wp2_with fail
    refine (markConstraintS_fc _ _ _ _ _ (fxlK c0 c1) 1 _ hT (by omega) (by omega) FG_5.out).mono ?_
    rintro e wm9 ⟨rfl, hfm, hor⟩
    have HB11 := Lib.hid (hor.below HB10.out (by omega))
    have q11 := hor.size
    have FW_8 := Lib.hid (FW_7.out.onlyR hor (.inl (by omega)))
    have FM_0 := Lib.hid (hfm)
    clear hor FW_7 FG_5 HB10
    clear hfm
    have hk2 : ¬ ((1 : Int) + 2 * (tot (fxlK c0 c1) (fxlN n0 c0 c1) : Int) + ((fxlN n0 c0 c1 : Nat) : Int) < 0) := by omega
    go_wp2_with fail
    refine (heldConstraintS_fc _ _ _ _ _ (fxlK c0 c1) 1 _ hT (by omega) (by omega) FM_0.out).mono ?_
    rintro e wh1 ⟨rfl, hb⟩
    have HB12 := Lib.hid (bl_trans HB11.out hb)
    have q12 := hb.size
    have FW_9 := Lib.hid (FW_8.out.below hb)
    have FM_1 := Lib.hid (FM_0.out.below hb)
    clear hb FW_8 FM_0 HB11
    go_wp2_with fail
    refine (toConstraintS_any _ _ _ c0 _ h0 HN0.out (hr0.later HB12.out)).mono ?_
    rintro e wz0 ⟨Gz0, rfl, hGz0, hoz0, hb⟩
    have HB13 := Lib.hid (bl_trans HB12.out hb)
    have q13 := hb.size
    have FW_10 := Lib.hid (FW_9.out.below hb)
    have FM_2 := Lib.hid (FM_1.out.below hb)
    have Oz0_0 := Lib.hid (hoz0)
    clear hb FW_9 FM_1 HB12
    clear hoz0
    go_wp2_with fail
    refine (implFxl_any _ _ _ c0 c1 _ h0 HN0.out Oz0_0.out.rdAt).mono ?_
    rintro e wj ⟨Ah, caph, rfl, hfh, hb⟩
    have HB14 := Lib.hid (bl_trans HB13.out hb)
    have q14 := hb.size
    have FW_11 := Lib.hid (FW_10.out.below hb)
    have FM_3 := Lib.hid (FM_2.out.below hb)
    have FH_0 := Lib.hid (FrC.two hfh)
    clear hb FW_10 FM_2 Oz0_0 HB13
    clear hfh
    go_wp2_with fail
    refine (eqConstraintS_refl _ _ _ _ _ (fxlK c0 c1) _ hN HNr.out FH_0.out.rdAt FW_11.out.rdAt).mono ?_
    rintro e wq5 ⟨rfl, hb⟩
    have HB15 := Lib.hid (bl_trans HB14.out hb)
    have q15 := hb.size
    have FM_4 := Lib.hid (FM_3.out.below hb)
    clear hb FW_11 FM_3 FH_0 HB14
    go_wp2_with fail
    refine (heldConstraintS_fc _ _ _ _ _ (fxlK c0 c1) 1 _ hT (by omega) (by omega) FM_4.out).mono ?_
    rintro e wh2 ⟨rfl, hb⟩
    have HB16 := Lib.hid (bl_trans HB15.out hb)
    have q16 := hb.size
    have FM_5 := Lib.hid (FM_4.out.below hb)
    clear hb FM_4 HB15
    go_wp2
    go_ret
    exact ⟨rfl, HB16.out⟩
  · have HM := Lib.hid hk0
    clear hk0
    go_enter Try.func4, Try.ntmps4
    go_wp2_with fail
    refine (szConstraintS_no _ _ _ c0 _ _ (by omega) (by omega) (by omega) hm0 HM.out hr0).mono ?_
    rintro e w0 ⟨rfl, hb⟩
    have HB := Lib.hid hb
    clear hb
    go_wp2
    go_ret
    exact ⟨rfl, HB.out⟩
end Go.Proofs.Ytbebdhjhlheboaa
