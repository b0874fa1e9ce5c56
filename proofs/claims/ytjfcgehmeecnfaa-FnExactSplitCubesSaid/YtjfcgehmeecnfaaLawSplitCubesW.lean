/- The walk of the exact law of SplitCubes (no claim of its own). Conditions: as each theorem states. -/
import Derived.Test.YtjfcgehmeecnfaaCbsQ
import Derived.Test.YtjfcgehmeecnfaaFbR
import Derived.Test.YtjfcgehmeecnfaaMrkP
import Derived.Test.YtjfcgehmeecnfaaMkCs
namespace Go.Proofs.Ytjfcgehmeecnfaa
open Go.ChangeShapes Go.WideShapes Go.ChangeAt Go.RowKit

set_option linter.unusedVariables false in
set_option maxRecDepth 100000 in
set_option maxHeartbeats 6400000 in
theorem lawSplitCubes_walk (A0 : Option Addr) (n0 cap0 : Nat) (c0 : Nat → Int) (w : World) (hm0 : n0 ≤ maxLen) (hr0 : RdI w w.heap.size A0 n0 c0) :
    Calls Try.prog 4 #[.slice A0 n0 cap0] w fun e w' => e = .returned (.bool true) ∧ Below w.heap.size w w' := by
  by_cases h0 : n0 ≤ 1048576
  · go_enter Try.func4, Try.ntmps4
    go_wp2_with fail
    refine (toIntS_any _ _ _ c0 _ h0 hr0).mono ?_
    rintro e wa0 ⟨Ga0, rfl, hGa0, hoa0, hb⟩
    have HB1 := Lib.hid hb
    have q1 := hb.size
    have Oa0_0 := Lib.hid (OwnI.toV hoa0)
    clear hb 
    clear hoa0
    go_wp2_with fail
    refine (specSplit_any _ _ _ c0 _ h0 Oa0_0.out.rdAt).mono ?_
    rintro e ws ⟨Aw, capw, rfl, hfw, hb⟩
    have HB2 := Lib.hid (bl_trans HB1.out hb)
    have q2 := hb.size
    have FW_0 := Lib.hid (FrL.two hfw)
    clear hb Oa0_0 HB1
    clear hfw
    go_wp2_with fail
    refine (toIntS_any _ _ _ c0 _ h0 (hr0.later HB2.out)).mono ?_
    rintro e wx0 ⟨Gx0, rfl, hGx0, hox0, hb⟩
    have HB3 := Lib.hid (bl_trans HB2.out hb)
    have q3 := hb.size
    have FW_1 := Lib.hid (FW_0.out.below hb)
    have Ox0_0 := Lib.hid (OwnI.toV hox0)
    have FX0_0 := Lib.hid (FrI.two (lo := ws.heap.size) (.inr ⟨Gx0, rfl, hGx0, OwnI.toV hox0⟩))
    clear hb FW_0 HB2
    clear hox0
    go_wp2_with fail
    refine (implSplit_any _ _ _ c0 _ h0 Ox0_0.out.rdAt).mono ?_
    rintro e wi ⟨Ag, capg, rfl, hfg, hb⟩
    have HB4 := Lib.hid (bl_trans HB3.out hb)
    have q4 := hb.size
    have FW_2 := Lib.hid (FW_1.out.below hb)
    have Ox0_1 := Lib.hid (Ox0_0.out.below hb)
    have FX0_1 := Lib.hid (FX0_0.out.below hb)
    have FG_0 := Lib.hid (FrL.two hfg)
    clear hb FW_1 Ox0_0 FX0_0 HB3
    clear hfg
    have hN : splN n0 c0 ≤ 1048576 := Nat.le_trans (splN_le _ _) (by omega)
    have HNr := Lib.hid (spl_all n0 c0)
    have hT := spl_tot n0 c0
    go_wp2_with fail
    refine (eqIntSS_refl _ _ _ _ _ (cbL c0 n0) _ hN HNr.out FG_0.out.rdAt FW_2.out.rdAt).mono ?_
    rintro e wq1 ⟨rfl, hb⟩
    have HB5 := Lib.hid (bl_trans HB4.out hb)
    have q5 := hb.size
    have FW_3 := Lib.hid (FW_2.out.below hb)
    have Ox0_2 := Lib.hid (Ox0_1.out.below hb)
    have FX0_2 := Lib.hid (FX0_1.out.below hb)
    have FG_1 := Lib.hid (FG_0.out.below hb)
    clear hb FW_2 Ox0_1 FX0_1 FG_0 HB4
    go_wp2_with fail
    refine (toIntS_any _ _ _ c0 _ h0 (hr0.later HB5.out)).mono ?_
    rintro e wy0 ⟨Gy0, rfl, hGy0, hoy0, hb⟩
    have HB6 := Lib.hid (bl_trans HB5.out hb)
    have q6 := hb.size
    have FW_4 := Lib.hid (FW_3.out.below hb)
    have Ox0_3 := Lib.hid (Ox0_2.out.below hb)
    have FX0_3 := Lib.hid (FX0_2.out.below hb)
    have FG_2 := Lib.hid (FG_1.out.below hb)
    have Oy0_0 := Lib.hid (OwnI.toV hoy0)
    clear hb FW_3 Ox0_2 FX0_2 FG_1 HB5
    clear hoy0
    go_wp2_with fail
    refine (eqIntS_refl _ _ _ _ _ c0 _ h0 Ox0_3.out.rdAt Oy0_0.out.rdAt).mono ?_
    rintro e wqy0 ⟨rfl, hb⟩
    have HB7 := Lib.hid (bl_trans HB6.out hb)
    have q7 := hb.size
    have FW_5 := Lib.hid (FW_4.out.below hb)
    have FX0_4 := Lib.hid (FX0_3.out.below hb)
    have FG_3 := Lib.hid (FG_2.out.below hb)
    clear hb FW_4 Ox0_3 FX0_3 FG_2 Oy0_0 HB6
    go_wp2_with fail
    refine (markIntS_any _ _ _ _ c0 (1) _ h0 (by omega) (by omega) FX0_4.out.one).mono ?_
    rintro e wm0 ⟨rfl, hfm, ho⟩
    have hor := onlyR_ints FX0_4.out ho
    have HB8 := Lib.hid (hor.below HB7.out (by omega))
    have q8 := hor.size
    have FW_6 := Lib.hid (FW_5.out.onlyR hor (.inl (by omega)))
    have FG_4 := Lib.hid (FG_3.out.onlyR hor (.inr (by omega)))
    clear ho hor hfm FW_5 FG_3 FX0_4 HB7
    have hk1 : ¬ ((1 : Int) + (n0 : Int) < 0) := by omega
    go_wp2_with fail
    refine (eqIntSS_refl _ _ _ _ _ (cbL c0 n0) _ hN HNr.out FG_4.out.rdAt FW_6.out.rdAt).mono ?_
    rintro e wq4 ⟨rfl, hb⟩
    have HB9 := Lib.hid (bl_trans HB8.out hb)
    have q9 := hb.size
    have FW_7 := Lib.hid (FW_6.out.below hb)
    have FG_5 := Lib.hid (FG_4.out.below hb)
    clear hb FW_6 FG_4 HB8
    clear hk1
    go_wp2_with fail
    refine (markIntSS_fl _ _ _ _ _ (cbL c0 n0) 1 _ hT (by omega) (by omega) FG_5.out).mono ?_
    rintro e wm9 ⟨rfl, hfm, hor⟩
    have HB10 := Lib.hid (hor.below HB9.out (by omega))
    have q10 := hor.size
    have FW_8 := Lib.hid (FW_7.out.onlyR hor (.inl (by omega)))
    have FM_0 := Lib.hid (hfm)
    clear hor FW_7 FG_5 HB9
    clear hfm
    have hk2 : ¬ ((1 : Int) + (totL (cbL c0 n0) (splN n0 c0) : Int) < 0) := by omega
    go_wp2_with fail
    refine (heldIntSS_fl _ _ _ _ _ (cbL c0 n0) 1 _ hT (by omega) (by omega) FM_0.out).mono ?_
    rintro e wh1 ⟨rfl, hb⟩
    have HB11 := Lib.hid (bl_trans HB10.out hb)
    have q11 := hb.size
    have FW_9 := Lib.hid (FW_8.out.below hb)
    have FM_1 := Lib.hid (FM_0.out.below hb)
    clear hb FW_8 FM_0 HB10
    go_wp2_with fail
    refine (toIntS_any _ _ _ c0 _ h0 (hr0.later HB11.out)).mono ?_
    rintro e wz0 ⟨Gz0, rfl, hGz0, hoz0, hb⟩
    have HB12 := Lib.hid (bl_trans HB11.out hb)
    have q12 := hb.size
    have FW_10 := Lib.hid (FW_9.out.below hb)
    have FM_2 := Lib.hid (FM_1.out.below hb)
    have Oz0_0 := Lib.hid (OwnI.toV hoz0)
    clear hb FW_9 FM_1 HB11
    clear hoz0
    go_wp2_with fail
    refine (implSplit_any _ _ _ c0 _ h0 Oz0_0.out.rdAt).mono ?_
    rintro e wj ⟨Ah, caph, rfl, hfh, hb⟩
    have HB13 := Lib.hid (bl_trans HB12.out hb)
    have q13 := hb.size
    have FW_11 := Lib.hid (FW_10.out.below hb)
    have FM_3 := Lib.hid (FM_2.out.below hb)
    have FH_0 := Lib.hid (FrL.two hfh)
    clear hb FW_10 FM_2 Oz0_0 HB12
    clear hfh
    go_wp2_with fail
    refine (eqIntSS_refl _ _ _ _ _ (cbL c0 n0) _ hN HNr.out FH_0.out.rdAt FW_11.out.rdAt).mono ?_
    rintro e wq5 ⟨rfl, hb⟩
    have HB14 := Lib.hid (bl_trans HB13.out hb)
    have q14 := hb.size
    have FM_4 := Lib.hid (FM_3.out.below hb)
    clear hb FW_11 FM_3 FH_0 HB13
    go_wp2_with fail
    refine (heldIntSS_fl _ _ _ _ _ (cbL c0 n0) 1 _ hT (by omega) (by omega) FM_4.out).mono ?_
    rintro e wh2 ⟨rfl, hb⟩
    have HB15 := Lib.hid (bl_trans HB14.out hb)
    have q15 := hb.size
    have FM_5 := Lib.hid (FM_4.out.below hb)
    clear hb FM_4 HB14
    go_wp2
    go_ret
    exact ⟨rfl, HB15.out⟩
  · unfold maxLen at hm0
    go_enter Try.func4, Try.ntmps4
    go_wp2
    go_ret
    exact ⟨rfl, Below.refl _ _⟩
end Go.Proofs.Ytjfcgehmeecnfaa
