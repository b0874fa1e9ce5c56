/- The walk of the law FnCubeProblem (no claim of its own). Conditions: as each theorem states. -/
import Derived.Test.YtjfcgehmeecnfaaCdrZ
import Derived.Test.YtjfcgehmeecnfaaCubH
import Derived.Test.YtjfcgehmeecnfaaCubI
import Derived.Test.YtjfcgehmeecnfaaCubQ
import Derived.Test.YtjfcgehmeecnfaaCunM
import Derived.Test.YtjfcgehmeecnfaaSatC
import Derived.Test.YtjfcgehmeecnfaaCplA
namespace Go.Proofs.Ytjfcgehmeecnfaa
open Go.ChangeShapes Go.WideShapes Go.ChangeAt Go.RowKit

set_option linter.unusedVariables false in
set_option maxRecDepth 100000 in
set_option maxHeartbeats 6400000 in
theorem lawFnCubeProblem_ok (A0 A1 : Option Addr) (n0 cap0 n1 cap1 : Nat) (y0 y1 : Nat → Int) (w : World) (h0 : n0 ≤ 1048576) (h1 : n1 ≤ 1048576) (hc0 : n0 ≤ cap0) (hc1 : n1 ≤ cap1) (hr0 : RdY w w.heap.size A0 n0 y0) (hr1 : RdY w w.heap.size A1 n1 y1) :
    Calls Try.prog 8 #[.slice A0 n0 cap0, .slice A1 n1 cap1] w fun e w' => e = .returned (.bool true) ∧ Below w.heap.size w w' := by
  have hm0 : n0 ≤ maxLen := by unfold maxLen; omega
  have hm1 : n1 ≤ maxLen := by unfold maxLen; omega
  have hi0 : ¬ (1048576 : Int) < (n0 : Int) := by omega
  have hi1 : ¬ (1048576 : Int) < (n1 : Int) := by omega
  go_enter Try.func8, Try.ntmps8
  go_wp2_with fail
  refine (drawCubeP_any _ _ _ y0 _ hm0 hc0 hr0).mono ?_
  rintro e w1 ⟨Al, kl, capl, p, Ac, m, capc, c, rfl, hkl, hN, hm, hrp, hrc, hb⟩
  have HB1 := Lib.hid hb
  have HP0 := Lib.hid hrp
  have HC0 := Lib.hid hrc
  clear hb 
  have HN := Lib.hid (fun i hi => Nat.le_trans (hN i hi) (show 15 ≤ 1048576 by omega))
  have hklB : kl ≤ 1048576 := by omega
  have hmB : m ≤ 1048576 := by omega
  clear hrp hrc hN
  go_wp2_with fail
  refine (drawCubeH_any _ _ _ y1 _ hm1 hc1 (hr1.later HB1.out)).mono ?_
  rintro e w2 ⟨_, _, _, _, Av, kv, capv, v, rfl, _, hkv, _, hrv, hb⟩
  have HB2 := Lib.hid (bl_trans HB1.out hb)
  have HP1 := Lib.hid (HP0.out.later hb)
  have HC1 := Lib.hid (HC0.out.later hb)
  have HV0 := Lib.hid hrv
  clear hb HP0 HC0 HB1
  have hkvB : kv ≤ 1048576 := by omega
  clear hrv
  go_wp2_with fail
  refine (implUnd_any _ _ _ _ _ _ p c _ hklB HN.out hmB HP1.out HC1.out).mono ?_
  rintro e w3 ⟨Ax, capx, rfl, hfx, hb⟩
  have HB3 := Lib.hid (bl_trans HB2.out hb)
  have HP2 := Lib.hid (HP1.out.later hb)
  have HC2 := Lib.hid (HC1.out.later hb)
  have HV1 := Lib.hid (HV0.out.later hb)
  have FX0 := Lib.hid hfx
  clear hb HP1 HC1 HV0 HB2
  clear hfx
  go_wp2_with fail
  refine (specUnd_any _ _ _ _ _ _ p c _ hklB HN.out hmB HP2.out HC2.out).mono ?_
  rintro e w4 ⟨Aw, capw, rfl, hfw, hb⟩
  have HB4 := Lib.hid (bl_trans HB3.out hb)
  have HP3 := Lib.hid (HP2.out.later hb)
  have HC3 := Lib.hid (HC2.out.later hb)
  have HV2 := Lib.hid (HV1.out.later hb)
  have FX1 := Lib.hid (FX0.out.below hb)
  have FW0 := Lib.hid hfw
  clear hb HP2 HC2 HV1 FX0 HB3
  clear hfw
  have hNu : undN kl p m c ≤ 1048576 := Nat.le_trans (undN_le _ _ _ _) (by omega)
  have HNu := Lib.hid (und_all kl p m c)
  cases hu : undOk kl p m c with
  | false =>
    clear hu
    go_wp2_with fail
    refine (cpProblem_same _ _ _ _ _ (undP kl p c) _ hNu HNu.out FX1.out.rdAt FW0.out.rdAt).mono ?_
    rintro e w5 ⟨rfl, hb⟩
    have HB5 := Lib.hid (bl_trans HB4.out hb)
    have HP4 := Lib.hid (HP3.out.later hb)
    have HC4 := Lib.hid (HC3.out.later hb)
    have HV3 := Lib.hid (HV2.out.later hb)
    have FX2 := Lib.hid (FX1.out.below hb)
    have FW1 := Lib.hid (FW0.out.below hb)
    clear hb HP3 HC3 HV2 FX1 FW0 HB4
    go_wp2_with fail
    refine (cpProblem_same _ _ _ _ _ (undP kl p c) _ hNu HNu.out FX2.out.rdAt FW1.out.rdAt).mono ?_
    rintro e w6 ⟨rfl, hb⟩
    have HB6 := Lib.hid (bl_trans HB5.out hb)
    have HP5 := Lib.hid (HP4.out.later hb)
    have HC5 := Lib.hid (HC4.out.later hb)
    have HV4 := Lib.hid (HV3.out.later hb)
    have FX3 := Lib.hid (FX2.out.below hb)
    have FW2 := Lib.hid (FW1.out.below hb)
    clear hb HP4 HC4 HV3 FX2 FW1 HB5
    go_wp2
    go_ret
    exact ⟨rfl, HB6.out⟩
  | true =>
    have HU := Lib.hid hu
    clear hu
    by_cases h12 : kv = 12
    · subst h12
      go_wp2_with fail
      refine (cpProblem_same _ _ _ _ _ (undP kl p c) _ hNu HNu.out FX1.out.rdAt FW0.out.rdAt).mono ?_
      rintro e w5 ⟨rfl, hb⟩
      have HB5 := Lib.hid (bl_trans HB4.out hb)
      have HP4 := Lib.hid (HP3.out.later hb)
      have HC4 := Lib.hid (HC3.out.later hb)
      have HV3 := Lib.hid (HV2.out.later hb)
      have FX2 := Lib.hid (FX1.out.below hb)
      have FW1 := Lib.hid (FW0.out.below hb)
      clear hb HP3 HC3 HV2 FX1 FW0 HB4
      have HNe := Lib.hid (show undN kl p m c = kl + m from by obtain ⟨a, b, d⟩ := und_parts HU.out; exact (und_yes a b d).2)
      have HSe := Lib.hid (show satB (undN kl p m c) (undP kl p c) 12 v = (satB kl p 12 v && holdsB m c 12 v) from by rw [HNe.out]; exact und_sat HU.out)
      go_wp2_with fail
      refine (implSat_any _ _ _ _ _ _ (undP kl p c) v _ hNu HNu.out (show (12 : Nat) ≤ 1048576 by omega) FX2.out.rdAt HV3.out).mono ?_
      rintro e w6 ⟨rfl, hb⟩
      rw [HSe.out]
      have HB6 := Lib.hid (bl_trans HB5.out hb)
      have HP5 := Lib.hid (HP4.out.later hb)
      have HC5 := Lib.hid (HC4.out.later hb)
      have HV4 := Lib.hid (HV3.out.later hb)
      clear hb HP4 HC4 HV3 FX2 FW1 HB5
      go_wp2_with fail
      refine (implSat_any _ _ _ _ _ _ p v _ hklB HN.out (show (12 : Nat) ≤ 1048576 by omega) HP5.out.rd HV4.out).mono ?_
      rintro e w7 ⟨rfl, hb⟩
      have HB7 := Lib.hid (bl_trans HB6.out hb)
      have HP6 := Lib.hid (HP5.out.later hb)
      have HC6 := Lib.hid (HC5.out.later hb)
      have HV5 := Lib.hid (HV4.out.later hb)
      clear hb HP5 HC5 HV4 HB6
      cases hs : satB kl p 12 v with
      | false =>
        clear hs
        go_wp2
        go_ret
        exact ⟨rfl, HB7.out⟩
      | true =>
        clear hs
        go_wp2_with fail
        refine (implHolds_any _ _ _ _ _ _ c v _ hmB (show (12 : Nat) ≤ 1048576 by omega) HC6.out HV5.out).mono ?_
        rintro e w8 ⟨rfl, hb⟩
        have HB8 := Lib.hid (bl_trans HB7.out hb)
        have HP7 := Lib.hid (HP6.out.later hb)
        have HC7 := Lib.hid (HC6.out.later hb)
        have HV6 := Lib.hid (HV5.out.later hb)
        clear hb HP6 HC6 HV5 HB7
        go_wp2
        go_ret
        exact ⟨ret_bool (by simp), HB8.out⟩
    · have hk2 : ((kv : Int) == 12) = false := by rw [beq_eq_false_iff_ne]; omega
      go_wp2_with fail
      refine (cpProblem_same _ _ _ _ _ (undP kl p c) _ hNu HNu.out FX1.out.rdAt FW0.out.rdAt).mono ?_
      rintro e w5 ⟨rfl, hb⟩
      have HB5 := Lib.hid (bl_trans HB4.out hb)
      have HP4 := Lib.hid (HP3.out.later hb)
      have HC4 := Lib.hid (HC3.out.later hb)
      have HV3 := Lib.hid (HV2.out.later hb)
      have FX2 := Lib.hid (FX1.out.below hb)
      have FW1 := Lib.hid (FW0.out.below hb)
      clear hb HP3 HC3 HV2 FX1 FW0 HB4
      go_wp2_with fail
      refine (cpProblem_same _ _ _ _ _ (undP kl p c) _ hNu HNu.out FX2.out.rdAt FW1.out.rdAt).mono ?_
      rintro e w6 ⟨rfl, hb⟩
      have HB6 := Lib.hid (bl_trans HB5.out hb)
      have HP5 := Lib.hid (HP4.out.later hb)
      have HC5 := Lib.hid (HC4.out.later hb)
      have HV4 := Lib.hid (HV3.out.later hb)
      have FX3 := Lib.hid (FX2.out.below hb)
      have FW2 := Lib.hid (FW1.out.below hb)
      clear hb HP4 HC4 HV3 FX2 FW1 HB5
      go_wp2
      go_ret
      exact ⟨rfl, HB6.out⟩

set_option linter.unusedVariables false in
set_option maxRecDepth 100000 in
set_option maxHeartbeats 1600000 in
theorem lawFnCubeProblem_walk (A0 : Option Addr) (n0 cap0 : Nat) (y0 : Nat → Int) (A1 : Option Addr) (n1 cap1 : Nat) (y1 : Nat → Int) (w : World) (hm0 : n0 ≤ maxLen) (hc0 : n0 ≤ cap0) (hr0 : RdY w w.heap.size A0 n0 y0) (hm1 : n1 ≤ maxLen) (hc1 : n1 ≤ cap1) (hr1 : RdY w w.heap.size A1 n1 y1) :
    Calls Try.prog 8 #[.slice A0 n0 cap0, .slice A1 n1 cap1] w fun e w' => e = .returned (.bool true) ∧ Below w.heap.size w w' := by
  by_cases h0 : n0 ≤ 1048576
  · by_cases h1 : n1 ≤ 1048576
    · exact lawFnCubeProblem_ok A0 A1 n0 cap0 n1 cap1 y0 y1 w h0 h1 hc0 hc1 hr0 hr1
    · unfold maxLen at hm1
      have hi0 : ¬ (1048576 : Int) < (n0 : Int) := by omega
      have hi1 : (1048576 : Int) < (n1 : Int) := by omega
      go_enter Try.func8, Try.ntmps8
      go_wp2
      go_ret
      exact ⟨rfl, Below.refl _ _⟩
  · unfold maxLen at hm0
    have hi0 : (1048576 : Int) < (n0 : Int) := by omega
    go_enter Try.func8, Try.ntmps8
    go_wp2
    go_ret
    exact ⟨rfl, Below.refl _ _⟩
end Go.Proofs.Ytjfcgehmeecnfaa
