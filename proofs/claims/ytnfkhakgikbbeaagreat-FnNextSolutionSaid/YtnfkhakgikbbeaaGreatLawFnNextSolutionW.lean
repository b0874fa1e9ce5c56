/- The walk of the law FnNextSolution (no claim of its own). Conditions: as each theorem states. -/
import Derived.Test.YtnfkhakgikbbeaaGreatCnxD
import Derived.Test.YtnfkhakgikbbeaaGreatCpbB
import Derived.Test.YtnfkhakgikbbeaaGreatCpvB
import Derived.Test.YtnfkhakgikbbeaaGreatCpbA
import Derived.Test.YtnfkhakgikbbeaaGreatSatC
namespace Go.Proofs.YtnfkhakgikbbeaaGreat
open Go.ChangeShapes Go.WideShapes Go.ChangeAt Go.RowKit

theorem nx_parts {m nv : Nat} {p : Nat → Con} {v : Nat → Bool} (h : nxOk m p nv v = true) : probB m p = true ∧ nv = 12 := by
  unfold nxOk at h
  rw [Bool.and_eq_true, Bool.and_eq_true, beq_iff_eq] at h
  exact ⟨h.1, h.2.1⟩
theorem sat_all {m : Nat} {p : Nat → Con} {u : Nat → Bool} (h : satB m p 12 u = true) : allE p u m = true := by
  unfold satB at h
  rw [Bool.and_eq_true, Bool.and_eq_true] at h
  exact h.2.2

set_option linter.unusedVariables false in
set_option maxRecDepth 100000 in
set_option maxHeartbeats 6400000 in
theorem lawFnNextSolution_ok (A0 : Option Addr) (n0 cap0 : Nat) (y0 : Nat → Int) (w : World) (h0 : n0 ≤ 1048576) (hc0 : n0 ≤ cap0) (hr0 : RdY w w.heap.size A0 n0 y0) :
    Calls Tryz.prog 4 #[.slice A0 n0 cap0] w fun e w' => e = .returned (.bool true) ∧ Below w.heap.size w w' := by
  have hm0 : n0 ≤ maxLen := by unfold maxLen; omega
  have hi0 : ¬ (1048576 : Int) < (n0 : Int) := by omega
  go_enter Tryz.func4, Tryz.ntmps4
  go_wp2_with fail
  refine (drawNext_any _ _ _ y0 _ hm0 hc0 hr0).mono ?_
  rintro e w1 ⟨Al, kl, capl, p, Av, kv, capv, v, rfl, hkl, hN, hkv, hrp, hrv, hb⟩
  have HB1 := Lib.hid hb
  have HP1 := Lib.hid hrp.rd
  have HV1 := Lib.hid hrv
  have HN := Lib.hid (fun i hi => Nat.le_trans (hN i hi) (show 15 ≤ 1048576 by omega))
  have hklB : kl ≤ 1048576 := by omega
  have hkvB : kv ≤ 1048576 := by omega
  clear hb hrp hrv hN hr0
  go_wp2_with fail
  refine (implNext_any _ _ _ _ _ _ p v _ hklB HN.out hkvB HP1.out HV1.out).mono ?_
  rintro e w2 ⟨Ax, capx, rfl, hfx, hb⟩
  have HB2 := Lib.hid (bl_trans HB1.out hb)
  have HP2 := Lib.hid (HP1.out.later hb)
  have HV2 := Lib.hid (HV1.out.later hb)
  have FX2 := Lib.hid hfx
  clear hb hfx HB1 HP1 HV1
  go_wp2_with fail
  refine (specNext_any _ _ _ _ _ _ p v _ hklB HN.out hkvB HP2.out HV2.out).mono ?_
  rintro e w3 ⟨Aw, capw, rfl, hfw, hb⟩
  have HB3 := Lib.hid (bl_trans HB2.out hb)
  have HP3 := Lib.hid (HP2.out.later hb)
  have HV3 := Lib.hid (HV2.out.later hb)
  have FX3 := Lib.hid (FX2.out.below hb).rdAt
  have FW3 := Lib.hid hfw.rdAt
  clear hb hfw HB2 HP2 HV2 FX2
  cases hK : nxOk kl p kv v with
  | true =>
    obtain ⟨hpb, hkv12⟩ := nx_parts hK
    subst hkv12
    obtain ⟨hnn, hga, hgb⟩ := nx_good hK
    have HPb := Lib.hid hpb
    have HK := Lib.hid hK
    have HOk := Lib.hid (fun i hi => (⟨(prob_ok hpb).2 i hi, HN.out i hi⟩ : okC (p i) ∧ (p i).n ≤ 1048576))
    have HGs := Lib.hid (show satB kl p 12 (nxV kl p v) = true from by unfold satB; rw [hpb, hga]; rfl)
    have HGb := Lib.hid (decide_eq_false hgb)
    rw [hnn] at FX3 FW3 ⊢
    clear hK hpb hga hgb hnn
    go_wp2_with fail
    refine (cpBools_same _ _ _ _ _ (nxV kl p v) _ (by omega) FX3.out FW3.out).mono ?_
    rintro e w4 ⟨rfl, hb⟩
    have HB4 := Lib.hid (bl_trans HB3.out hb)
    have HP4 := Lib.hid (HP3.out.later hb)
    have HV4 := Lib.hid (HV3.out.later hb)
    have FX4 := Lib.hid (FX3.out.later hb)
    have FW4 := Lib.hid (FW3.out.later hb)
    clear hb HB3 HP3 HV3 FX3 FW3
    go_wp2_with fail
    refine (implProblem_any _ _ _ p _ hklB HN.out HP4.out).mono ?_
    rintro e w5 ⟨rfl, hb⟩
    have HB5 := Lib.hid (bl_trans HB4.out hb)
    have HP5 := Lib.hid (HP4.out.later hb)
    have HV5 := Lib.hid (HV4.out.later hb)
    have FX5 := Lib.hid (FX4.out.later hb)
    have FW5 := Lib.hid (FW4.out.later hb)
    clear hb HB4 HP4 HV4 FX4 FW4
    rw [HPb.out]
    go_wp2
    go_loopw [9] (fun i wr => ∃ j : Nat, i = .int .i64 j ∧ j ≤ 4096 ∧ Below w5.heap.size w5 wr) (fun i _ => 4096 - (intOf i).toNat)
    case atStart => exact ⟨0, rfl, by omega, Below.refl _ _⟩
    case round =>
      obtain ⟨j, rfl, hj, hb⟩ := hrel
      have HPr := Lib.hid (HP5.out.later hb)
      have HVr := Lib.hid (HV5.out.later hb)
      have FXr := Lib.hid (FX5.out.later hb)
      have HBr := Lib.hid (bl_trans HB5.out hb)
      have HBj := Lib.hid hb
      clear hb HP5 HV5 FX5 FW5
      by_cases hlt : j < 4096
      · have hjI : (j : Int) < 4096 := by omega
        go_wp2_with fail
        refine (cpValues_any j _ (by omega)).mono ?_
        rintro e w6 ⟨Au, capu, u, rfl, hu, hb⟩
        have U6 := Lib.hid hu
        have HP6 := Lib.hid (HPr.out.later hb)
        have HV6 := Lib.hid (HVr.out.later hb)
        have FX6 := Lib.hid (FXr.out.later hb)
        have HJ6 := Lib.hid (bl_trans HBj.out hb)
        clear hb hu HPr HVr FXr HBj
        go_wp2_with fail
        refine (implSat_any _ _ _ _ _ _ p u _ hklB HN.out (by omega) HP6.out U6.out).mono ?_
        rintro e w7 ⟨rfl, hb⟩
        have U7 := Lib.hid (U6.out.later hb)
        have HV7 := Lib.hid (HV6.out.later hb)
        have FX7 := Lib.hid (FX6.out.later hb)
        have HJ7 := Lib.hid (bl_trans HJ6.out hb)
        clear hb U6 HP6 HV6 FX6 HJ6
        cases hS : satB kl p 12 u with
        | false =>
          clear hS
          go_wp2
          go_roundw
          case rel => exact ⟨j + 1, by go_num, by omega, HJ7.out⟩
          case measure => simp [intOf]; omega
        | true =>
          have HS := Lib.hid (sat_all hS)
          clear hS
          go_wp2_with fail
          refine (cpBefore_any _ _ _ _ u v _ U7.out HV7.out).mono ?_
          rintro e w8 ⟨rfl, hb⟩
          have U8 := Lib.hid (U7.out.later hb)
          have FX8 := Lib.hid (FX7.out.later hb)
          have HJ8 := Lib.hid (bl_trans HJ7.out hb)
          clear hb U7 HV7 FX7 HJ7
          by_cases hlv : numU u 12 < numU v 12
          · have hdl : decide (numU u 12 < numU v 12) = true := decide_eq_true hlv
            rw [hdl]
            clear hdl hlv HS
            go_wp2
            go_roundw
            case rel => exact ⟨j + 1, by go_num, by omega, HJ8.out⟩
            case measure => simp [intOf]; omega
          · have hdl : decide (numU u 12 < numU v 12) = false := decide_eq_false hlv
            obtain ⟨g1, g2⟩ := nx_least HPb.out HOk.out HS.out hlv
            have HG := Lib.hid (decide_eq_false g2)
            rw [hdl]
            clear hdl hlv HS g1 g2
            go_wp2_with fail
            refine (cpBefore_any _ _ _ _ u (nxV kl p v) _ U8.out FX8.out).mono ?_
            rintro e w9 ⟨rfl, hb⟩
            have HJ9 := Lib.hid (bl_trans HJ8.out hb)
            clear hb U8 FX8 HJ8
            rw [HG.out]
            go_wp2
            go_roundw
            case rel => exact ⟨j + 1, by go_num, by omega, HJ9.out⟩
            case measure => simp [intOf]; omega
      · obtain rfl : j = 4096 := by omega
        go_wp2_with fail
        refine (implSat_any _ _ _ _ _ _ p (nxV kl p v) _ hklB HN.out (by omega) HPr.out FXr.out).mono ?_
        rintro e w6 ⟨rfl, hb⟩
        have HB6 := Lib.hid (bl_trans HBr.out hb)
        have HV6 := Lib.hid (HVr.out.later hb)
        have FX6 := Lib.hid (FXr.out.later hb)
        clear hb HPr HVr FXr HBj HBr
        rw [HGs.out]
        go_wp2_with fail
        refine (cpBefore_any _ _ _ _ (nxV kl p v) v _ FX6.out HV6.out).mono ?_
        rintro e w7 ⟨rfl, hb⟩
        have HB7 := Lib.hid (bl_trans HB6.out hb)
        clear hb HB6 HV6 FX6
        rw [HGb.out]
        go_wp2
        go_ret
        exact ⟨rfl, HB7.out⟩
  | false =>
    have HK := Lib.hid hK
    have hnn : nxN kl p kv v = 0 := by unfold nxN; rw [hK]; rfl
    rw [hnn] at FX3 FW3 ⊢
    clear hK hnn
    go_wp2_with fail
    refine (cpBools_same _ _ _ _ _ (nxV kl p v) _ (by omega) FX3.out FW3.out).mono ?_
    rintro e w4 ⟨rfl, hb⟩
    have HB4 := Lib.hid (bl_trans HB3.out hb)
    have HP4 := Lib.hid (HP3.out.later hb)
    have HV4 := Lib.hid (HV3.out.later hb)
    have FX4 := Lib.hid (FX3.out.later hb)
    have FW4 := Lib.hid (FW3.out.later hb)
    clear hb HB3 HP3 HV3 FX3 FW3
    go_wp2_with fail
    refine (implProblem_any _ _ _ p _ hklB HN.out HP4.out).mono ?_
    rintro e w5 ⟨rfl, hb⟩
    have HB5 := Lib.hid (bl_trans HB4.out hb)
    have HP5 := Lib.hid (HP4.out.later hb)
    have HV5 := Lib.hid (HV4.out.later hb)
    have FX5 := Lib.hid (FX4.out.later hb)
    have FW5 := Lib.hid (FW4.out.later hb)
    clear hb HB4 HP4 HV4 FX4 FW4
    cases hpb : probB kl p with
    | false =>
      clear hpb
      go_wp2_with fail
      refine (cpBools_same _ _ _ _ _ (nxV kl p v) _ (by omega) FX5.out FW5.out).mono ?_
      rintro e w6 ⟨rfl, hb⟩
      have HB6 := Lib.hid (bl_trans HB5.out hb)
      clear hb HB5 
      go_wp2
      go_ret
      exact ⟨rfl, HB6.out⟩
    | true =>
      by_cases hkv12 : kv = 12
      · subst hkv12
        have HPb := Lib.hid hpb
        have HOk := Lib.hid (fun i hi => (⟨(prob_ok hpb).2 i hi, HN.out i hi⟩ : okC (p i) ∧ (p i).n ≤ 1048576))
        clear hpb
        go_wp2
        go_loopw [9] (fun i wr => ∃ j : Nat, i = .int .i64 j ∧ j ≤ 4096 ∧ Below w5.heap.size w5 wr) (fun i _ => 4096 - (intOf i).toNat)
        case atStart => exact ⟨0, rfl, by omega, Below.refl _ _⟩
        case round =>
          obtain ⟨j, rfl, hj, hb⟩ := hrel
          have HPr := Lib.hid (HP5.out.later hb)
          have HVr := Lib.hid (HV5.out.later hb)
          have FXr := Lib.hid (FX5.out.later hb)
          have HBr := Lib.hid (bl_trans HB5.out hb)
          have HBj := Lib.hid hb
          clear hb HP5 HV5 FX5 FW5
          by_cases hlt : j < 4096
          · have hjI : (j : Int) < 4096 := by omega
            go_wp2_with fail
            refine (cpValues_any j _ (by omega)).mono ?_
            rintro e w6 ⟨Au, capu, u, rfl, hu, hb⟩
            have U6 := Lib.hid hu
            have HP6 := Lib.hid (HPr.out.later hb)
            have HV6 := Lib.hid (HVr.out.later hb)
            have FX6 := Lib.hid (FXr.out.later hb)
            have HJ6 := Lib.hid (bl_trans HBj.out hb)
            clear hb hu HPr HVr FXr HBj
            go_wp2_with fail
            refine (implSat_any _ _ _ _ _ _ p u _ hklB HN.out (by omega) HP6.out U6.out).mono ?_
            rintro e w7 ⟨rfl, hb⟩
            have U7 := Lib.hid (U6.out.later hb)
            have HV7 := Lib.hid (HV6.out.later hb)
            have FX7 := Lib.hid (FX6.out.later hb)
            have HJ7 := Lib.hid (bl_trans HJ6.out hb)
            clear hb U6 HP6 HV6 FX6 HJ6
            cases hS : satB kl p 12 u with
            | false =>
              clear hS
              go_wp2
              go_roundw
              case rel => exact ⟨j + 1, by go_num, by omega, HJ7.out⟩
              case measure => simp [intOf]; omega
            | true =>
              have HS := Lib.hid (sat_all hS)
              clear hS
              go_wp2_with fail
              refine (cpBefore_any _ _ _ _ u v _ U7.out HV7.out).mono ?_
              rintro e w8 ⟨rfl, hb⟩
              have U8 := Lib.hid (U7.out.later hb)
              have FX8 := Lib.hid (FX7.out.later hb)
              have HJ8 := Lib.hid (bl_trans HJ7.out hb)
              clear hb U7 HV7 FX7 HJ7
              by_cases hlv : numU u 12 < numU v 12
              · have hdl : decide (numU u 12 < numU v 12) = true := decide_eq_true hlv
                rw [hdl]
                clear hdl hlv HS
                go_wp2
                go_roundw
                case rel => exact ⟨j + 1, by go_num, by omega, HJ8.out⟩
                case measure => simp [intOf]; omega
              · have hdl : decide (numU u 12 < numU v 12) = false := decide_eq_false hlv
                obtain ⟨g1, g2⟩ := nx_least HPb.out HOk.out HS.out hlv
                rw [HK.out] at g1
                cases g1
          · obtain rfl : j = 4096 := by omega
            clear HPr HVr FXr HBj
            go_wp2
            go_ret
            exact ⟨rfl, HBr.out⟩
      · have hkI : ¬ (kv : Int) = 12 := by omega
        have hd0 : ((kv : Int) == 12) = false := by rw [beq_eq_false_iff_ne]; exact hkI
        clear hpb hkv12
        go_wp2_with fail
        refine (cpBools_same _ _ _ _ _ (nxV kl p v) _ (by omega) FX5.out FW5.out).mono ?_
        rintro e w6 ⟨rfl, hb⟩
        have HB6 := Lib.hid (bl_trans HB5.out hb)
        clear hb HB5 
        go_wp2
        go_ret
        exact ⟨rfl, HB6.out⟩

set_option linter.unusedVariables false in
set_option maxRecDepth 100000 in
set_option maxHeartbeats 1600000 in
theorem lawFnNextSolution_walk (A0 : Option Addr) (n0 cap0 : Nat) (y0 : Nat → Int) (w : World) (hm0 : n0 ≤ maxLen) (hc0 : n0 ≤ cap0) (hr0 : RdY w w.heap.size A0 n0 y0) :
    Calls Tryz.prog 4 #[.slice A0 n0 cap0] w fun e w' => e = .returned (.bool true) ∧ Below w.heap.size w w' := by
  by_cases h0 : n0 ≤ 1048576
  · exact lawFnNextSolution_ok A0 n0 cap0 y0 w h0 hc0 hr0
  · unfold maxLen at hm0
    have hi0 : (1048576 : Int) < (n0 : Int) := by omega
    go_enter Tryz.func4, Tryz.ntmps4
    go_wp2
    go_ret
    exact ⟨rfl, Below.refl _ _⟩
end Go.Proofs.YtnfkhakgikbbeaaGreat
