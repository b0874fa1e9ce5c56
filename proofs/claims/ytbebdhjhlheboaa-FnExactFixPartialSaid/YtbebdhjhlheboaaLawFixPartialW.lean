/- The walk of the exact law of FixPartial (no claim of its own). Conditions: as each theorem states. -/
import Derived.Test.YtbebdhjhlheboaaFixQ
import Derived.Test.YtbebdhjhlheboaaMkCs
import Derived.Test.YtbebdhjhlheboaaFbR
namespace Go.Proofs.Ytbebdhjhlheboaa
open Go.ChangeShapes Go.WideShapes Go.ChangeAt Go.RowKit

set_option linter.unusedVariables false in
set_option maxRecDepth 100000 in
set_option maxHeartbeats 6400000 in
theorem lawFixPartial_walk (A0 : Option Addr) (n0 cap0 : Nat) (c0 : Nat → Con) (A1 : Option Addr) (n1 cap1 : Nat) (c1 : Nat → Int) (w : World) (hm0 : n0 ≤ maxLen) (hk0 : ∀ i, i < n0 → (c0 i).n ≤ maxLen) (hr0 : RdP w w.heap.size A0 n0 c0) (hm1 : n1 ≤ maxLen) (hr1 : RdI w w.heap.size A1 n1 c1) :
    Calls Try.prog 3 #[.slice A0 n0 cap0, .slice A1 n1 cap1] w fun e w' => e = .returned (.bool true) ∧ Below w.heap.size w w' := by
  by_cases h1 : n1 ≤ 1048576
  · by_cases g0 : (n0 : Int) + tot c0 n0 ≤ 1048576
    · have h0 : n0 ≤ 1048576 := by omega
      have hn0 : ∀ i, i < n0 → (c0 i).n ≤ 1048576 := fun i hi => by have := tot_at c0 hi; omega
      have hge0 : ¬ ((1048576 : Int) - n0 - tot c0 n0 < 0) := by omega
      have HN0 := Lib.hid hn0
      clear hn0 hk0
      go_enter Try.func3, Try.ntmps3
      go_wp2_with fail
      refine (szConstraintS_ok _ _ _ c0 _ _ (by omega) (by omega) g0 hr0).mono ?_
      rintro e w0 ⟨rfl, hb⟩
      have HB1 := Lib.hid hb
      have q1 := hb.size
      clear hb 
      go_wp2_with fail
      refine (toConstraintS_any _ _ _ c0 _ h0 HN0.out (hr0.later HB1.out)).mono ?_
      rintro e wa0 ⟨Ga0, rfl, hGa0, hoa0, hb⟩
      have HB2 := Lib.hid (bl_trans HB1.out hb)
      have q2 := hb.size
      have Oa0_0 := Lib.hid (hoa0)
      clear hb  HB1
      clear hoa0
      go_wp2_with fail
      refine (toIntS_any _ _ _ c1 _ h1 (hr1.later HB2.out)).mono ?_
      rintro e wa1 ⟨Ga1, rfl, hGa1, hoa1, hb⟩
      have HB3 := Lib.hid (bl_trans HB2.out hb)
      have q3 := hb.size
      have Oa0_1 := Lib.hid (Oa0_0.out.below hb)
      have Oa1_0 := Lib.hid (OwnI.toV hoa1)
      clear hb Oa0_0 HB2
      clear hoa1
      go_wp2_with fail
      refine (specFix_any _ _ _ _ _ _ c0 c1 _ h0 HN0.out h1 Oa0_1.out.rdAt Oa1_0.out.rdAt).mono ?_
      rintro e ws ⟨Aw, capw, rfl, hfw, hb⟩
      have HB4 := Lib.hid (bl_trans HB3.out hb)
      have q4 := hb.size
      have FW_0 := Lib.hid (FrC.two hfw)
      clear hb Oa0_1 Oa1_0 HB3
      clear hfw
      go_wp2_with fail
      refine (toConstraintS_any _ _ _ c0 _ h0 HN0.out (hr0.later HB4.out)).mono ?_
      rintro e wx0 ⟨Gx0, rfl, hGx0, hox0, hb⟩
      have HB5 := Lib.hid (bl_trans HB4.out hb)
      have q5 := hb.size
      have FW_1 := Lib.hid (FW_0.out.below hb)
      have Ox0_0 := Lib.hid (hox0)
      have HX0_0 := Lib.hid (hox0.hd hGx0)
      clear hb FW_0 HB4
      have ltx0 := hox0.lt
      clear hox0
      go_wp2_with fail
      refine (toIntS_any _ _ _ c1 _ h1 (hr1.later HB5.out)).mono ?_
      rintro e wx1 ⟨Gx1, rfl, hGx1, hox1, hb⟩
      have HB6 := Lib.hid (bl_trans HB5.out hb)
      have q6 := hb.size
      have FW_2 := Lib.hid (FW_1.out.below hb)
      have Ox0_1 := Lib.hid (Ox0_0.out.below hb)
      have HX0_1 := Lib.hid (HX0_0.out.below hb)
      have Ox1_0 := Lib.hid (OwnI.toV hox1)
      have FX1_0 := Lib.hid (FrI.two (lo := wx0.heap.size) (.inr ⟨Gx1, rfl, hGx1, OwnI.toV hox1⟩))
      clear hb FW_1 Ox0_0 HX0_0 HB5
      clear hox1
      go_wp2_with fail
      refine (implFix_any _ _ _ _ _ _ c0 c1 _ h0 HN0.out h1 Ox0_1.out.rdAt Ox1_0.out.rdAt).mono ?_
      rintro e wi ⟨Ag, capg, rfl, hfg, hb⟩
      have HB7 := Lib.hid (bl_trans HB6.out hb)
      have q7 := hb.size
      have FW_3 := Lib.hid (FW_2.out.below hb)
      have Ox0_2 := Lib.hid (Ox0_1.out.below hb)
      have HX0_2 := Lib.hid (HX0_1.out.below hb)
      have Ox1_1 := Lib.hid (Ox1_0.out.below hb)
      have FX1_1 := Lib.hid (FX1_0.out.below hb)
      have FG_0 := Lib.hid (FrC.two hfg)
      clear hb FW_2 Ox0_1 HX0_1 Ox1_0 FX1_0 HB6
      clear hfg
      have hN : fixN n0 c0 n1 c1 ≤ 1048576 := Nat.le_trans (fixN_le _ _ _ _) (by omega)
      have HNr := Lib.hid (fix_all n0 c0 n1 c1)
      have hT := fix_tot n0 c0 n1 c1
      go_wp2_with fail
      refine (eqConstraintS_refl _ _ _ _ _ (fixK c0 c1) _ hN HNr.out FG_0.out.rdAt FW_3.out.rdAt).mono ?_
      rintro e wq1 ⟨rfl, hb⟩
      have HB8 := Lib.hid (bl_trans HB7.out hb)
      have q8 := hb.size
      have FW_4 := Lib.hid (FW_3.out.below hb)
      have Ox0_3 := Lib.hid (Ox0_2.out.below hb)
      have HX0_3 := Lib.hid (HX0_2.out.below hb)
      have Ox1_2 := Lib.hid (Ox1_1.out.below hb)
      have FX1_2 := Lib.hid (FX1_1.out.below hb)
      have FG_1 := Lib.hid (FG_0.out.below hb)
      clear hb FW_3 Ox0_2 HX0_2 Ox1_1 FX1_1 FG_0 HB7
      go_wp2_with fail
      refine (toConstraintS_any _ _ _ c0 _ h0 HN0.out (hr0.later HB8.out)).mono ?_
      rintro e wy0 ⟨Gy0, rfl, hGy0, hoy0, hb⟩
      have HB9 := Lib.hid (bl_trans HB8.out hb)
      have q9 := hb.size
      have FW_5 := Lib.hid (FW_4.out.below hb)
      have Ox0_4 := Lib.hid (Ox0_3.out.below hb)
      have HX0_4 := Lib.hid (HX0_3.out.below hb)
      have Ox1_3 := Lib.hid (Ox1_2.out.below hb)
      have FX1_3 := Lib.hid (FX1_2.out.below hb)
      have FG_2 := Lib.hid (FG_1.out.below hb)
      have Oy0_0 := Lib.hid (hoy0)
      clear hb FW_4 Ox0_3 HX0_3 Ox1_2 FX1_2 FG_1 HB8
      clear hoy0
      go_wp2_with fail
      refine (eqConstraintS_refl _ _ _ _ _ c0 _ h0 HN0.out Ox0_4.out.rdAt Oy0_0.out.rdAt).mono ?_
      rintro e wqy0 ⟨rfl, hb⟩
      have HB10 := Lib.hid (bl_trans HB9.out hb)
      have q10 := hb.size
      have FW_6 := Lib.hid (FW_5.out.below hb)
      have HX0_5 := Lib.hid (HX0_4.out.below hb)
      have Ox1_4 := Lib.hid (Ox1_3.out.below hb)
      have FX1_4 := Lib.hid (FX1_3.out.below hb)
      have FG_3 := Lib.hid (FG_2.out.below hb)
      clear hb FW_5 Ox0_4 HX0_4 Ox1_3 FX1_3 FG_2 Oy0_0 HB9
      go_wp2_with fail
      refine (toIntS_any _ _ _ c1 _ h1 (hr1.later HB10.out)).mono ?_
      rintro e wy1 ⟨Gy1, rfl, hGy1, hoy1, hb⟩
      have HB11 := Lib.hid (bl_trans HB10.out hb)
      have q11 := hb.size
      have FW_7 := Lib.hid (FW_6.out.below hb)
      have HX0_6 := Lib.hid (HX0_5.out.below hb)
      have Ox1_5 := Lib.hid (Ox1_4.out.below hb)
      have FX1_5 := Lib.hid (FX1_4.out.below hb)
      have FG_4 := Lib.hid (FG_3.out.below hb)
      have Oy1_0 := Lib.hid (OwnI.toV hoy1)
      clear hb FW_6 HX0_5 Ox1_4 FX1_4 FG_3 HB10
      clear hoy1
      go_wp2_with fail
      refine (eqIntS_refl _ _ _ _ _ c1 _ h1 Ox1_5.out.rdAt Oy1_0.out.rdAt).mono ?_
      rintro e wqy1 ⟨rfl, hb⟩
      have HB12 := Lib.hid (bl_trans HB11.out hb)
      have q12 := hb.size
      have FW_8 := Lib.hid (FW_7.out.below hb)
      have HX0_7 := Lib.hid (HX0_6.out.below hb)
      have FX1_6 := Lib.hid (FX1_5.out.below hb)
      have FG_5 := Lib.hid (FG_4.out.below hb)
      clear hb FW_7 HX0_6 Ox1_5 FX1_5 FG_4 Oy1_0 HB11
      go_wp2_with fail
      refine (markConstraintS_any ws.heap.size wx0.heap.size Gx0 _ _ c0 (1) _ g0 (by omega) (by omega) (by omega) ltx0 HX0_7.out).mono ?_
      rintro e wm0 ⟨rfl, hor, hsh⟩
      have HB13 := Lib.hid (hor.below HB12.out (by omega))
      have q13 := hor.size
      have FW_9 := Lib.hid (FW_8.out.onlyR hor (.inl (by omega)))
      have FX1_7 := Lib.hid (FX1_6.out.onlyR hor (.inr (by omega)))
      have FG_6 := Lib.hid (FG_5.out.onlyR hor (.inr (by omega)))
      clear hor FW_8 HX0_7 FX1_6 FG_5 HB12
      clear hsh
      go_wp2_with fail
      refine (markIntS_any _ _ _ _ c1 (1 + (n0 : Int) + 2 * (tot c0 n0 : Int)) _ h1 (by omega) (by omega) FX1_7.out.one).mono ?_
      rintro e wm1 ⟨rfl, hfm, ho⟩
      have hor := onlyR_ints FX1_7.out ho
      have HB14 := Lib.hid (hor.below HB13.out (by omega))
      have q14 := hor.size
      have FW_10 := Lib.hid (FW_9.out.onlyR hor (.inl (by omega)))
      have FG_7 := Lib.hid (FG_6.out.onlyR hor (.inr (by omega)))
      clear ho hor hfm FW_9 FG_6 FX1_7 HB13
      have hk1 : ¬ ((1 : Int) + (n0 : Int) + 2 * (tot c0 n0 : Int) + (n1 : Int) < 0) := by omega
      go_wp2_with fail
      refine (eqConstraintS_refl _ _ _ _ _ (fixK c0 c1) _ hN HNr.out FG_7.out.rdAt FW_10.out.rdAt).mono ?_
      rintro e wq4 ⟨rfl, hb⟩
      have HB15 := Lib.hid (bl_trans HB14.out hb)
      have q15 := hb.size
      have FW_11 := Lib.hid (FW_10.out.below hb)
      have FG_8 := Lib.hid (FG_7.out.below hb)
      clear hb FW_10 FG_7 HB14
      clear hk1
      go_wp2_with fail
      refine (markConstraintS_fc _ _ _ _ _ (fixK c0 c1) 1 _ hT (by omega) (by omega) FG_8.out).mono ?_
      rintro e wm9 ⟨rfl, hfm, hor⟩
      have HB16 := Lib.hid (hor.below HB15.out (by omega))
      have q16 := hor.size
      have FW_12 := Lib.hid (FW_11.out.onlyR hor (.inl (by omega)))
      have FM_0 := Lib.hid (hfm)
      clear hor FW_11 FG_8 HB15
      clear hfm
      have hk2 : ¬ ((1 : Int) + 2 * (tot (fixK c0 c1) (fixN n0 c0 n1 c1) : Int) + ((fixN n0 c0 n1 c1 : Nat) : Int) < 0) := by omega
      go_wp2_with fail
      refine (heldConstraintS_fc _ _ _ _ _ (fixK c0 c1) 1 _ hT (by omega) (by omega) FM_0.out).mono ?_
      rintro e wh1 ⟨rfl, hb⟩
      have HB17 := Lib.hid (bl_trans HB16.out hb)
      have q17 := hb.size
      have FW_13 := Lib.hid (FW_12.out.below hb)
      have FM_1 := Lib.hid (FM_0.out.below hb)
      clear hb FW_12 FM_0 HB16
      go_wp2_with fail
      refine (toConstraintS_any _ _ _ c0 _ h0 HN0.out (hr0.later HB17.out)).mono ?_
      rintro e wz0 ⟨Gz0, rfl, hGz0, hoz0, hb⟩
      have HB18 := Lib.hid (bl_trans HB17.out hb)
      have q18 := hb.size
      have FW_14 := Lib.hid (FW_13.out.below hb)
      have FM_2 := Lib.hid (FM_1.out.below hb)
      have Oz0_0 := Lib.hid (hoz0)
      clear hb FW_13 FM_1 HB17
      clear hoz0
      go_wp2_with fail
      refine (toIntS_any _ _ _ c1 _ h1 (hr1.later HB18.out)).mono ?_
      rintro e wz1 ⟨Gz1, rfl, hGz1, hoz1, hb⟩
      have HB19 := Lib.hid (bl_trans HB18.out hb)
      have q19 := hb.size
      have FW_15 := Lib.hid (FW_14.out.below hb)
      have FM_3 := Lib.hid (FM_2.out.below hb)
      have Oz0_1 := Lib.hid (Oz0_0.out.below hb)
      have Oz1_0 := Lib.hid (OwnI.toV hoz1)
      clear hb FW_14 FM_2 Oz0_0 HB18
      clear hoz1
      go_wp2_with fail
      refine (implFix_any _ _ _ _ _ _ c0 c1 _ h0 HN0.out h1 Oz0_1.out.rdAt Oz1_0.out.rdAt).mono ?_
      rintro e wj ⟨Ah, caph, rfl, hfh, hb⟩
      have HB20 := Lib.hid (bl_trans HB19.out hb)
      have q20 := hb.size
      have FW_16 := Lib.hid (FW_15.out.below hb)
      have FM_4 := Lib.hid (FM_3.out.below hb)
      have FH_0 := Lib.hid (FrC.two hfh)
      clear hb FW_15 FM_3 Oz0_1 Oz1_0 HB19
      clear hfh
      go_wp2_with fail
      refine (eqConstraintS_refl _ _ _ _ _ (fixK c0 c1) _ hN HNr.out FH_0.out.rdAt FW_16.out.rdAt).mono ?_
      rintro e wq5 ⟨rfl, hb⟩
      have HB21 := Lib.hid (bl_trans HB20.out hb)
      have q21 := hb.size
      have FM_5 := Lib.hid (FM_4.out.below hb)
      clear hb FW_16 FM_4 FH_0 HB20
      go_wp2_with fail
      refine (heldConstraintS_fc _ _ _ _ _ (fixK c0 c1) 1 _ hT (by omega) (by omega) FM_5.out).mono ?_
      rintro e wh2 ⟨rfl, hb⟩
      have HB22 := Lib.hid (bl_trans HB21.out hb)
      have q22 := hb.size
      have FM_6 := Lib.hid (FM_5.out.below hb)
      clear hb FM_5 HB21
      go_wp2
      go_ret
      exact ⟨rfl, HB22.out⟩
    · have HM := Lib.hid hk0
      clear hk0
      go_enter Try.func3, Try.ntmps3
      go_wp2_with fail
      refine (szConstraintS_no _ _ _ c0 _ _ (by omega) (by omega) (by omega) hm0 HM.out hr0).mono ?_
      rintro e w0 ⟨rfl, hb⟩
      have HB := Lib.hid hb
      clear hb
      go_wp2
      go_ret
      exact ⟨rfl, HB.out⟩
  · unfold maxLen at hm1
    go_enter Try.func3, Try.ntmps3
    go_wp2
    go_ret
    exact ⟨rfl, Below.refl _ _⟩
end Go.Proofs.Ytbebdhjhlheboaa
