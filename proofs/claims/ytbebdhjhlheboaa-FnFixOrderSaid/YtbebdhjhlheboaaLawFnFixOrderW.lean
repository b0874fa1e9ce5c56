/- The walk of the law FnFixOrder (no claim of its own). Conditions: as each theorem states. -/
import Derived.Test.YtbebdhjhlheboaaDfoA
import Derived.Test.YtbebdhjhlheboaaFixO
import Derived.Test.YtbebdhjhlheboaaCplA
namespace Go.Proofs.Ytbebdhjhlheboaa
open Go.ChangeShapes Go.WideShapes Go.ChangeAt Go.RowKit

set_option linter.unusedVariables false in
set_option maxRecDepth 100000 in
set_option maxHeartbeats 6400000 in
theorem lawFnFixOrder_ok (A0 A1 : Option Addr) (n0 cap0 n1 cap1 : Nat) (y0 y1 : Nat → Int) (w : World) (h0 : n0 ≤ 1048576) (h1 : n1 ≤ 1048576) (hc0 : n0 ≤ cap0) (hc1 : n1 ≤ cap1) (hr0 : RdY w w.heap.size A0 n0 y0) (hr1 : RdY w w.heap.size A1 n1 y1) :
    Calls Try.prog 6 #[.slice A0 n0 cap0, .slice A1 n1 cap1] w fun e w' => e = .returned (.bool true) ∧ Below w.heap.size w w' := by
  have hm0 : n0 ≤ maxLen := by unfold maxLen; omega
  have hm1 : n1 ≤ maxLen := by unfold maxLen; omega
  have hi0 : ¬ (1048576 : Int) < (n0 : Int) := by omega
  have hi1 : ¬ (1048576 : Int) < (n1 : Int) := by omega
  go_enter Try.func6, Try.ntmps6
  go_wp2_with fail
  refine (drawFxl_any _ _ _ y0 _ hm0 hc0 hr0).mono ?_
  rintro e w1 ⟨Al, kl, capl, p, z1, rfl, hkl, hN, hza, hzb, hrp, hb⟩
  have HB1 := Lib.hid hb
  have HP0 := Lib.hid hrp
  clear hb 
  have HN := Lib.hid (fun i hi => Nat.le_trans (hN i hi) (show 15 ≤ 1048576 by omega))
  have hklB : kl ≤ 1048576 := by omega
  clear hrp hN
  go_wp2_with fail
  refine (drawFxl_any _ _ _ y1 _ hm1 hc1 (hr1.later HB1.out)).mono ?_
  rintro e w2 ⟨Am, km, capm, pm, z2, rfl, hkm, hNm, hzc, hzd, hrm, hb⟩
  have HB2 := Lib.hid (bl_trans HB1.out hb)
  have HP1 := Lib.hid (HP0.out.later hb)
  clear hb HP0 HB1
  clear hrm hNm hkm hr0 hr1
  go_wp2_with fail
  refine (implFxl_any _ _ _ p z1 _ hklB HN.out HP1.out).mono ?_
  rintro e w3 ⟨Ax, capx, rfl, hfx, hb⟩
  have HB3 := Lib.hid (bl_trans HB2.out hb)
  have HP2 := Lib.hid (HP1.out.later hb)
  have FX0 := Lib.hid hfx
  clear hb HP1 HB2
  clear hfx
  go_wp2_with fail
  refine (specFxl_any _ _ _ p z1 _ hklB HN.out HP2.out).mono ?_
  rintro e w4 ⟨Aw, capw, rfl, hfw, hb⟩
  have HB4 := Lib.hid (bl_trans HB3.out hb)
  have HP3 := Lib.hid (HP2.out.later hb)
  have FX1 := Lib.hid (FX0.out.below hb)
  have FW0 := Lib.hid hfw
  clear hb HP2 FX0 HB3
  clear hfw
  have hNu : fxlN kl p z1 ≤ 1048576 := Nat.le_trans (fxlN_le _ _ _) (by omega)
  have HNu := Lib.hid (fxl_all kl p z1)
  cases hu : fxlOk kl p z1 with
  | false =>
    clear hu
    go_wp2_with fail
    refine (cpProblem_same _ _ _ _ _ (fxlK p z1) _ hNu HNu.out FX1.out.rdAt FW0.out.rdAt).mono ?_
    rintro e w5 ⟨rfl, hb⟩
    have HB5 := Lib.hid (bl_trans HB4.out hb)
    have HP4 := Lib.hid (HP3.out.later hb)
    have FX2 := Lib.hid (FX1.out.below hb)
    have FW1 := Lib.hid (FW0.out.below hb)
    clear hb HP3 FX1 FW0 HB4
    go_wp2_with fail
    refine (cpProblem_same _ _ _ _ _ (fxlK p z1) _ hNu HNu.out FX2.out.rdAt FW1.out.rdAt).mono ?_
    rintro e w6 ⟨rfl, hb⟩
    have HB6 := Lib.hid (bl_trans HB5.out hb)
    have HP5 := Lib.hid (HP4.out.later hb)
    have FX3 := Lib.hid (FX2.out.below hb)
    have FW2 := Lib.hid (FW1.out.below hb)
    clear hb HP4 FX2 FW1 HB5
    go_wp2
    go_ret
    exact ⟨rfl, HB6.out⟩
  | true =>
    have HU := Lib.hid hu
    have hN1 : fxlN kl p z1 = kl := fxlN_eq hu
    rw [hN1] at hNu HNu FX1 FW0 ⊢
    clear hu hN1
    have hwz : wrap64 (-z1) = -z1 := by rw [← IntWalk.i64_left]; exact IntWalk.i64_in _ (by omega)
    go_wp2_with fail
    refine (cpProblem_same _ _ _ _ _ (fxlK p z1) _ hNu HNu.out FX1.out.rdAt FW0.out.rdAt).mono ?_
    rintro e w5 ⟨rfl, hb⟩
    have HB5 := Lib.hid (bl_trans HB4.out hb)
    have HP4 := Lib.hid (HP3.out.later hb)
    have FX2 := Lib.hid (FX1.out.below hb)
    have FW1 := Lib.hid (FW0.out.below hb)
    clear hb HP3 FX1 FW0 HB4
    by_cases e1 : z2 = z1
    · have e1b : (z2 == z1) = true := by rw [beq_iff_eq]; exact e1
      clear e1
      go_wp2_with fail
      refine (cpProblem_same _ _ _ _ _ (fxlK p z1) _ hNu HNu.out FX2.out.rdAt FW1.out.rdAt).mono ?_
      rintro e w6 ⟨rfl, hb⟩
      have HB6 := Lib.hid (bl_trans HB5.out hb)
      have HP5 := Lib.hid (HP4.out.later hb)
      have FX3 := Lib.hid (FX2.out.below hb)
      have FW2 := Lib.hid (FW1.out.below hb)
      clear hb HP4 FX2 FW1 HB5
      go_wp2
      go_ret
      exact ⟨rfl, HB6.out⟩
    · have e1b : (z2 == z1) = false := by rw [beq_eq_false_iff_ne]; exact e1
      by_cases e2 : z2 = -z1
      · have e2b : (z2 == -z1) = true := by rw [beq_iff_eq]; exact e2
        clear e2
        go_wp2_with fail
        refine (cpProblem_same _ _ _ _ _ (fxlK p z1) _ hNu HNu.out FX2.out.rdAt FW1.out.rdAt).mono ?_
        rintro e w6 ⟨rfl, hb⟩
        have HB6 := Lib.hid (bl_trans HB5.out hb)
        have HP5 := Lib.hid (HP4.out.later hb)
        have FX3 := Lib.hid (FX2.out.below hb)
        have FW2 := Lib.hid (FW1.out.below hb)
        clear hb HP4 FX2 FW1 HB5
        go_wp2
        go_ret
        exact ⟨rfl, HB6.out⟩
      · have e2b : (z2 == -z1) = false := by rw [beq_eq_false_iff_ne]; exact e2
        have HE1 := Lib.hid e1
        have HE2 := Lib.hid e2
        clear e1 e2
        go_wp2_with fail
        refine (implFxl_any _ _ _ (fxlK p z1) z2 _ hklB HNu.out FX2.out.rdAt).mono ?_
        rintro e w7 ⟨Ay, capy, rfl, hfy, hb⟩
        have HB6 := Lib.hid (bl_trans HB5.out hb)
        have HP5 := Lib.hid (HP4.out.later hb)
        have FX3 := Lib.hid (FX2.out.below hb)
        have FW2 := Lib.hid (FW1.out.below hb)
        have FY0 := Lib.hid hfy
        clear hb HP4 FX2 FW1 HB5
        clear hfy
        go_wp2_with fail
        refine (implFxl_any _ _ _ p z2 _ hklB HN.out HP5.out).mono ?_
        rintro e w8 ⟨Az, capz, rfl, hfz, hb⟩
        have HB7 := Lib.hid (bl_trans HB6.out hb)
        have HP6 := Lib.hid (HP5.out.later hb)
        have FX4 := Lib.hid (FX3.out.below hb)
        have FW3 := Lib.hid (FW2.out.below hb)
        have FY1 := Lib.hid (FY0.out.below hb)
        have FZ0 := Lib.hid hfz
        clear hb HP5 FX3 FW2 FY0 HB6
        clear hfz
        have hNz : fxlN kl p z2 ≤ 1048576 := Nat.le_trans (fxlN_le _ _ _) (by omega)
        have HNz := Lib.hid (fxl_all kl p z2)
        go_wp2_with fail
        refine (implFxl_any _ _ _ (fxlK p z2) z1 _ hNz HNz.out FZ0.out.rdAt).mono ?_
        rintro e w9 ⟨Av, capv, rfl, hfv, hb⟩
        have HB8 := Lib.hid (bl_trans HB7.out hb)
        have HP7 := Lib.hid (HP6.out.later hb)
        have FX5 := Lib.hid (FX4.out.below hb)
        have FW4 := Lib.hid (FW3.out.below hb)
        have FY2 := Lib.hid (FY1.out.below hb)
        have FZ1 := Lib.hid (FZ0.out.below hb)
        have FV0 := Lib.hid hfv
        clear hb HP6 FX4 FW3 FY1 FZ0 HB7
        clear hfv
        have hP := (fxl_ok HU.out).2
        have hL1 := (fxl_ok HU.out).1
        have hPX := fxl_prob HU.out
        have hY : fxlOk kl (fxlK p z1) z2 = litB z2 := by unfold fxlOk; rw [hPX, Bool.and_true]
        have hZ : fxlOk kl p z2 = litB z2 := by unfold fxlOk; rw [hP, Bool.and_true]
        rw [hY, hZ]
        cases hz : litB z2 with
        | false =>
          generalize fxlOk (fxlN kl p z2) (fxlK p z2) z1 = ok3
          clear hY hZ hP hPX hL1 hz
          go_wp2
          go_ret
          exact ⟨rfl, HB8.out⟩
        | true =>
          rw [hz] at hY hZ
          have hNy := fxlN_eq hY
          have hNz1 := fxlN_eq hZ
          have hV : fxlOk (fxlN kl p z2) (fxlK p z2) z1 = true := by rw [hNz1]; unfold fxlOk; rw [hL1, fxl_prob hZ]; rfl
          have hNv : fxlN (fxlN kl p z2) (fxlK p z2) z1 = kl := (fxlN_eq hV).trans hNz1
          have HNy := Lib.hid (fxl_all kl (fxlK p z1) z2)
          rw [hNy] at FY2 HNy
          rw [hNv] at FV0
          rw [hV, hNy, hNv]
          have HRv := Lib.hid (rdP_congr FV0.out.rdAt (fun i hi => (fxl_comm hP hL1 hz HE1.out HE2.out i hi).symm))
          have HRy := Lib.hid FY2.out.rdAt
          clear hY hZ hP hPX hL1 hz hV hNv hNy hNz1
          go_wp2_with fail
          refine (cpProblem_same _ _ _ _ _ (fxlK (fxlK p z1) z2) _ hklB HNy.out HRy.out HRv.out).mono ?_
          rintro e w10 ⟨rfl, hb⟩
          have HBe := Lib.hid (bl_trans HB8.out hb)
          clear hb
          go_wp2
          go_ret
          exact ⟨rfl, HBe.out⟩

set_option linter.unusedVariables false in
set_option maxRecDepth 100000 in
set_option maxHeartbeats 1600000 in
theorem lawFnFixOrder_walk (A0 : Option Addr) (n0 cap0 : Nat) (y0 : Nat → Int) (A1 : Option Addr) (n1 cap1 : Nat) (y1 : Nat → Int) (w : World) (hm0 : n0 ≤ maxLen) (hc0 : n0 ≤ cap0) (hr0 : RdY w w.heap.size A0 n0 y0) (hm1 : n1 ≤ maxLen) (hc1 : n1 ≤ cap1) (hr1 : RdY w w.heap.size A1 n1 y1) :
    Calls Try.prog 6 #[.slice A0 n0 cap0, .slice A1 n1 cap1] w fun e w' => e = .returned (.bool true) ∧ Below w.heap.size w w' := by
  by_cases h0 : n0 ≤ 1048576
  · by_cases h1 : n1 ≤ 1048576
    · exact lawFnFixOrder_ok A0 A1 n0 cap0 n1 cap1 y0 y1 w h0 h1 hc0 hc1 hr0 hr1
    · unfold maxLen at hm1
      have hi0 : ¬ (1048576 : Int) < (n0 : Int) := by omega
      have hi1 : (1048576 : Int) < (n1 : Int) := by omega
      go_enter Try.func6, Try.ntmps6
      go_wp2
      go_ret
      exact ⟨rfl, Below.refl _ _⟩
  · unfold maxLen at hm0
    have hi0 : (1048576 : Int) < (n0 : Int) := by omega
    go_enter Try.func6, Try.ntmps6
    go_wp2
    go_ret
    exact ⟨rfl, Below.refl _ _⟩
end Go.Proofs.Ytbebdhjhlheboaa
