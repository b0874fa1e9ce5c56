/- The walk of the law FnPropagate (no claim of its own). Conditions: as each theorem states. -/
import Derived.Test.YtooknldfkcdneaaCpvA
import Derived.Deep.QuietTactic
import Derived.BigQuiet
namespace Go.Proofs.Ytooknldfkcdneaa
open Go.ChangeShapes Go.WideShapes Go.ChangeAt Go.RowKit

set_option linter.unusedSimpArgs false in
set_option linter.unusedVariables false in
set_option maxRecDepth 100000 in
set_option maxHeartbeats 6400000 in
theorem lawFnPropagate_ok (A0 : Option Addr) (n0 cap0 : Nat) (y0 : Nat → Int) (w : World) (h0 : n0 ≤ 1048576) (hc0 : n0 ≤ cap0) (hr0 : RdY w w.heap.size A0 n0 y0) :
    Calls Try.prog 5 #[.slice A0 n0 cap0] w fun e w' => e = .returned (.bool true) ∧ Below w.heap.size w w' := by
  have hm0 : n0 ≤ maxLen := by unfold maxLen; omega
  have hi0 : ¬ (1048576 : Int) < (n0 : Int) := by omega
  go_enter Try.func5, Try.ntmps5
  go_wp2_with fail
  refine (drawPg_any _ _ _ y0 _ hm0 hc0 hr0).mono ?_
  rintro e w1 ⟨Aa, ka, capa, xsa, loa, ela, Av, kv, capv, v0, rfl, hka, hkv, hp, hrv, hb⟩
  obtain ⟨p, hna, hpa⟩ := hp.pxp
  obtain ⟨v, hrv', hv0⟩ := rdi_cut hrv
  have HNa := Lib.hid (fun i hi => Nat.le_trans (hna i hi) (show 15 ≤ 1048576 by omega))
  have HB1 := Lib.hid hb
  have PA1 := Lib.hid hp
  have QA1 := Lib.hid hpa
  have Hv1 := Lib.hid hrv'
  have HV0 := Lib.hid hv0
  clear hb hp hpa hrv hrv' hna hv0
  have hkaB : ka ≤ 1048576 := by omega
  have hkvB : kv ≤ 1048576 := by omega
  go_wp2_with fail
  refine (implProp_any _ _ _ _ _ _ p v _ hkaB hkvB HNa.out (rdp_own PA1.out.own QA1.out) Hv1.out HV0.out).mono ?_
  rintro e w2 ⟨n, v2, r, Aq, capq, Tq, rfl, hfq, hb, a1, a0⟩
  have HB2 := Lib.hid (bl_trans HB1.out hb)
  have PA2 := Lib.hid (PA1.out.bel hb)
  have QA2 := Lib.hid (QA1.out.later hb)
  have Hv2 := Lib.hid (Hv1.out.later hb)
  have FQ1 := Lib.hid (FrI.two hfq)
  clear hb PA1 QA1 Hv1 HB1
  clear hfq
  have HA1 := Lib.hid a1
  have HA0 := Lib.hid a0
  clear a1 a0
  obtain ⟨ok, hok⟩ : ∃ ok, (probB ka p && pvB kv v) = ok := ⟨_, rfl⟩
  have HOK := Lib.hid hok
  rw [hok] at HA1 HA0 ⊢
  clear hok
  go_wp2_with fail
  refine (specProp_any _ _ _ _ _ _ p v _ hkaB hkvB HNa.out (rdp_own PA2.out.own QA2.out) Hv2.out).mono ?_
  rintro e w3 ⟨nw, vw, rw', Aw, capw, Tw, rfl, hfw, hb, b1, b0⟩
  have HB3 := Lib.hid (bl_trans HB2.out hb)
  have PA3 := Lib.hid (PA2.out.bel hb)
  have QA3 := Lib.hid (QA2.out.later hb)
  have Hv3 := Lib.hid (Hv2.out.later hb)
  have FQ2 := Lib.hid (FQ1.out.below hb)
  have FW01 := Lib.hid (FrI.two hfw)
  clear hb PA2 QA2 Hv2 FQ1 HB2
  rw [HOK.out] at b1 b0 ⊢
  obtain ⟨e1, e2, e3, hn12⟩ := pres_two HA1.out HA0.out b1 b0
  subst e1
  subst e2
  have FW1 := Lib.hid (FrI.two (fri_as hfw e3))
  clear FW01 hfw b1 b0 e3
  have h12 : nw ≤ 1048576 := by omega
  cases ok with
  | false =>
    go_wp2_with (go_at_call 27; first | (refine (cpInts_refl _ _ _ _ _ v2 _ h12 FQ4x.out.rdAt FW4x.out.rdAt).mono ?_; rintro e w5x ⟨rfl, hb⟩; have HB5x := Lib.hid (bl_trans HB4x.out hb); have FQ5x := Lib.hid (FQ4x.out.below hb); have FW5x := Lib.hid (FW4x.out.below hb); clear hb ) | (refine (cpInts_refl _ _ _ _ _ v2 _ h12 FQ2.out.rdAt FW1.out.rdAt).mono ?_; rintro e w4x ⟨rfl, hb⟩; have HB4x := Lib.hid (bl_trans HB3.out hb); have FQ4x := Lib.hid (FQ2.out.below hb); have FW4x := Lib.hid (FW1.out.below hb); clear hb ))
    go_ret
    exact ⟨rfl, HB5x.out⟩
  | true =>
    obtain ⟨e12, hrg2, hrun⟩ := HA1.out rfl
    subst e12
    obtain ⟨hpb, hpv⟩ : probB ka p = true ∧ pvB kv v = true := by simpa using HOK.out
    obtain ⟨e12, hrg⟩ := pvB_iff.1 hpv
    have HV1 := Lib.hid (HV0.out e12)
    clear HV0
    subst e12
    have HOk := Lib.hid (prob_ok hpb).2
    have HRn := Lib.hid (show rng v from hrg)
    have HRn2 := Lib.hid hrg2
    have HRun := Lib.hid hrun
    clear hrg hrg2 hrun hpb hpv HA1 HA0
    go_wp2_with fail
    go_wp2_with fail
    refine (cpInts_refl _ _ _ _ _ v2 _ h12 FQ2.out.rdAt FW1.out.rdAt).mono ?_
    rintro e w4 ⟨rfl, hb⟩
    have HB4 := Lib.hid (bl_trans HB3.out hb)
    have PA4 := Lib.hid (PA3.out.bel hb)
    have QA4 := Lib.hid (QA3.out.later hb)
    have Hv4 := Lib.hid (Hv3.out.later hb)
    have FQ3 := Lib.hid (FQ2.out.below hb)
    clear hb PA3 QA3 Hv3 FQ2 FW1 HB3
    obtain ⟨hpa0, hpv0⟩ : probB ka p = true ∧ pvB 12 v = true := by simpa using HOK.out
    have Hpv0 := Lib.hid hpv0
    have Hpv2 := Lib.hid (pvB_iff.2 ⟨rfl, HRn2.out⟩ : pvB 12 v2 = true)
    clear hpa0 hpv0
    have HSo := Lib.hid (fun (u : Nat → Bool) (h1 : extB 12 v 12 u = true) (h2 : satB ka p 12 u = true) => prop_sound HNa.out (fun j hj => HOk.out j hj) HRun.out HRn.out HRn2.out (ext_ag h1) h2)
    go_wp2
    go_loopw [11] (fun i wr => ∃ j : Nat, i = .int .i64 j ∧ j ≤ 4096 ∧ Below w4.heap.size w4 wr) (fun i _ => 4096 - (intOf i).toNat)
    case atStart => exact ⟨0, rfl, by omega, Below.refl _ _⟩
    case round =>
      obtain ⟨j, rfl, hj, hb⟩ := hrel
      have HBr := Lib.hid hb
      clear hb
      by_cases hlt : j < 4096
      · have hjI : (j : Int) < 4096 := by omega
        have PAr := Lib.hid (PA4.out.bel HBr.out)
        have QAr := Lib.hid (QA4.out.later HBr.out)
        have Hvr := Lib.hid (Hv4.out.later HBr.out)
        have FQr := Lib.hid (FQ3.out.below HBr.out)
        go_wp2_with fail
        refine (cpValues_any j _ (by omega)).mono ?_
        rintro e w5 ⟨Au, capu, u, rfl, hu, hb⟩
        have B5 := Lib.hid (bl_trans HBr.out hb)
        have U5 := Lib.hid hu
        have PAa := Lib.hid (PAr.out.bel hb)
        have QAa := Lib.hid (QAr.out.later hb)
        have Hva := Lib.hid (Hvr.out.later hb)
        have FQa := Lib.hid (FQr.out.below hb)
        clear hb hu PAr QAr Hvr FQr HBr
        go_wp2_with fail
        refine (implExt_any _ _ _ _ _ _ v u _ hkvB (by omega) Hva.out U5.out).mono ?_
        rintro e w6 ⟨rfl, hb⟩
        have B6 := Lib.hid (bl_trans B5.out hb)
        have U6 := Lib.hid (U5.out.later hb)
        have PAb := Lib.hid (PAa.out.bel hb)
        have QAb := Lib.hid (QAa.out.later hb)
        have Hvb := Lib.hid (Hva.out.later hb)
        have FQb := Lib.hid (FQa.out.below hb)
        clear hb U5 B5 PAa QAa Hva FQa
        cases hE : extB 12 v 12 u with
        | false =>
          clear hE
          go_wp2
          go_roundw
          case rel => exact ⟨j + 1, by go_num, by omega, B6.out⟩
          case measure => simp [intOf]; omega
        | true =>
          have HE := Lib.hid hE
          clear hE
          go_wp2_with fail
          refine (implSat_any _ _ _ _ _ _ p u _ hkaB HNa.out (by omega) (rdp_own PAb.out.own QAb.out) U6.out).mono ?_
          rintro e w7 ⟨rfl, hb⟩
          have B7 := Lib.hid (bl_trans B6.out hb)
          have U7 := Lib.hid (U6.out.later hb)
          have FQc := Lib.hid (FQb.out.below hb)
          clear hb U6 B6 PAb QAb Hvb FQb
          cases hS : satB ka p 12 u with
          | false =>
            clear hS
            go_wp2
            go_roundw
            case rel => exact ⟨j + 1, by go_num, by omega, B7.out⟩
            case measure => simp [intOf]; omega
          | true =>
            obtain ⟨e1, e2⟩ := HSo.out u HE.out hS
            subst e1
            have HX := Lib.hid (show extB 12 v2 12 u = true from by unfold extB; rw [Hpv2.out, e2]; rfl)
            clear e2 hS
            go_wp2_with fail
            refine (implExt_any _ _ _ _ _ _ v2 u _ hkvB (by omega) FQc.out.rdAt U7.out).mono ?_
            rintro e w8 ⟨rfl, hb⟩
            have B8 := Lib.hid (bl_trans B7.out hb)
            clear hb
            rw [HX.out]
            go_wp2
            go_roundw
            case rel => exact ⟨j + 1, by go_num, by omega, B8.out⟩
            case measure => simp [intOf]; omega
      · have e : j = 4096 := by omega
        subst e
        go_wp2
        go_ret
        exact ⟨rfl, bl_trans HB4.out HBr.out⟩

set_option linter.unusedVariables false in
set_option maxRecDepth 100000 in
set_option maxHeartbeats 1600000 in
theorem lawFnPropagate_walk (A0 : Option Addr) (n0 cap0 : Nat) (y0 : Nat → Int) (w : World) (hm0 : n0 ≤ maxLen) (hc0 : n0 ≤ cap0) (hr0 : RdY w w.heap.size A0 n0 y0) :
    Calls Try.prog 5 #[.slice A0 n0 cap0] w fun e w' => e = .returned (.bool true) ∧ Below w.heap.size w w' := by
  by_cases h0 : n0 ≤ 1048576
  · exact lawFnPropagate_ok A0 n0 cap0 y0 w h0 hc0 hr0
  · unfold maxLen at hm0
    have hi0 : (1048576 : Int) < (n0 : Int) := by omega
    go_enter Try.func5, Try.ntmps5
    go_wp2
    go_ret
    exact ⟨rfl, Below.refl _ _⟩
end Go.Proofs.Ytooknldfkcdneaa
