/- The walk of the law FnFixPartial (no claim of its own). Conditions: as each theorem states. -/
import Derived.Test.YtbebdhjhlheboaaDfxZ
import Derived.Test.YtbebdhjhlheboaaFxpZ
namespace Go.Proofs.Ytbebdhjhlheboaa
open Go.ChangeShapes Go.WideShapes Go.ChangeAt Go.RowKit

/-- The values with those of the first k variables put in. -/
def inK (u : Nat → Bool) (v : Nat → Int) (k i : Nat) : Bool := if i < k then inV u v i else u i
theorem inK_same {u : Nat → Bool} {v : Nat → Int} {k : Nat} (h : v k = 0) : inK u v (k + 1) = inK u v k := funext fun i => by
  unfold inK
  by_cases e : i = k
  · subst e
    rw [if_pos (by omega), if_neg (by omega)]
    exact if_pos h
  · by_cases e1 : i < k
    · rw [if_pos (by omega), if_pos e1]
    · rw [if_neg (by omega), if_neg e1]
theorem inK_put {u : Nat → Bool} {v : Nat → Int} {k : Nat} {b : Bool} (h : inV u v k = b) (j : Nat) (_hj : j < 12) : inK u v (k + 1) j = if j = k then b else inK u v k j := by
  unfold inK
  by_cases e : j = k
  · subst e
    rw [if_pos (by omega), if_pos rfl, h]
  · rw [if_neg e]
    by_cases e1 : j < k
    · rw [if_pos (by omega), if_pos e1]
    · rw [if_neg (by omega), if_neg e1]
theorem inK_zero (u : Nat → Bool) (v : Nat → Int) : inK u v 0 = u := funext fun i => if_neg (by omega)

set_option linter.unusedVariables false in
set_option maxRecDepth 100000 in
set_option maxHeartbeats 6400000 in
theorem lawFnFixPartial_ok (A0 A1 : Option Addr) (n0 cap0 n1 cap1 : Nat) (y0 y1 : Nat → Int) (w : World) (h0 : n0 ≤ 1048576) (h1 : n1 ≤ 1048576) (hc0 : n0 ≤ cap0) (hc1 : n1 ≤ cap1) (hr0 : RdY w w.heap.size A0 n0 y0) (hr1 : RdY w w.heap.size A1 n1 y1) :
    Calls Try.prog 5 #[.slice A0 n0 cap0, .slice A1 n1 cap1] w fun e w' => e = .returned (.bool true) ∧ Below w.heap.size w w' := by
  have hm0 : n0 ≤ maxLen := by unfold maxLen; omega
  have hm1 : n1 ≤ maxLen := by unfold maxLen; omega
  have hi0 : ¬ (1048576 : Int) < (n0 : Int) := by omega
  have hi1 : ¬ (1048576 : Int) < (n1 : Int) := by omega
  go_enter Try.func5, Try.ntmps5
  go_wp2_with fail
  refine (drawFxP_any _ _ _ y0 _ hm0 hc0 hr0).mono ?_
  rintro e w1 ⟨Al, kl, capl, p, Av, m, capv, v, rfl, hkl, hN, hmv, hrp, hrv, hb⟩
  have HB1 := Lib.hid hb
  have HP0 := Lib.hid hrp
  have HV0 := Lib.hid hrv
  clear hb 
  have HN := Lib.hid (fun i hi => Nat.le_trans (hN i hi) (show 15 ≤ 1048576 by omega))
  have hklB : kl ≤ 1048576 := by omega
  have hmB : m ≤ 1048576 := by omega
  clear hrp hrv hN
  go_wp2_with fail
  refine (drawExt_any _ _ _ y1 _ hm1 hc1 (hr1.later HB1.out)).mono ?_
  rintro e w2 ⟨Ap, kp, capp, vp, Ab, kb, capb, u, rfl, hkp, hkb, hrq, hru, hb⟩
  have HB2 := Lib.hid (bl_trans HB1.out hb)
  have HP1 := Lib.hid (HP0.out.later hb)
  have HV1 := Lib.hid (HV0.out.later hb)
  have HU0 := Lib.hid hru
  clear hb HP0 HV0 HB1
  clear hrq hru hr0 hr1
  go_wp2_with fail
  refine (implFix_any _ _ _ _ _ _ p v _ hklB HN.out hmB HP1.out HV1.out).mono ?_
  rintro e w3 ⟨Ax, capx, rfl, hfx, hb⟩
  have HB3 := Lib.hid (bl_trans HB2.out hb)
  have HP2 := Lib.hid (HP1.out.later hb)
  have HV2 := Lib.hid (HV1.out.later hb)
  have HU1 := Lib.hid (HU0.out.later hb)
  have FX0 := Lib.hid hfx
  clear hb HP1 HV1 HU0 HB2
  clear hfx
  go_wp2_with fail
  refine (specFix_any _ _ _ _ _ _ p v _ hklB HN.out hmB HP2.out HV2.out).mono ?_
  rintro e w4 ⟨Aw, capw, rfl, hfw, hb⟩
  have HB4 := Lib.hid (bl_trans HB3.out hb)
  have HP3 := Lib.hid (HP2.out.later hb)
  have HV3 := Lib.hid (HV2.out.later hb)
  have HU2 := Lib.hid (HU1.out.later hb)
  have FX1 := Lib.hid (FX0.out.below hb)
  have FW0 := Lib.hid hfw
  clear hb HP2 HV2 HU1 FX0 HB3
  clear hfw
  have hNu : fixN kl p m v ≤ 1048576 := Nat.le_trans (fixN_le _ _ _ _) (by omega)
  have HNu := Lib.hid (fix_all kl p m v)
  cases hu : fixOk kl p m v with
  | false =>
    clear hu
    go_wp2_with fail
    refine (cpProblem_same _ _ _ _ _ (fixK p v) _ hNu HNu.out FX1.out.rdAt FW0.out.rdAt).mono ?_
    rintro e w5 ⟨rfl, hb⟩
    have HB5 := Lib.hid (bl_trans HB4.out hb)
    have HP4 := Lib.hid (HP3.out.later hb)
    have HV4 := Lib.hid (HV3.out.later hb)
    have HU3 := Lib.hid (HU2.out.later hb)
    have FX2 := Lib.hid (FX1.out.below hb)
    have FW1 := Lib.hid (FW0.out.below hb)
    clear hb HP3 HV3 HU2 FX1 FW0 HB4
    go_wp2_with fail
    refine (cpProblem_same _ _ _ _ _ (fixK p v) _ hNu HNu.out FX2.out.rdAt FW1.out.rdAt).mono ?_
    rintro e w6 ⟨rfl, hb⟩
    have HB6 := Lib.hid (bl_trans HB5.out hb)
    have HP5 := Lib.hid (HP4.out.later hb)
    have HV5 := Lib.hid (HV4.out.later hb)
    have HU4 := Lib.hid (HU3.out.later hb)
    have FX3 := Lib.hid (FX2.out.below hb)
    have FW2 := Lib.hid (FW1.out.below hb)
    clear hb HP4 HV4 HU3 FX2 FW1 HB5
    go_wp2
    go_ret
    exact ⟨rfl, HB6.out⟩
  | true =>
    obtain ⟨hpv, hpm⟩ := fix_ok hu
    obtain ⟨e12, hv12⟩ := pvB_iff.1 hpm
    subst e12
    have HNe := Lib.hid (fix_yes hpv hpm).2
    have HPX := Lib.hid (fix_prob hu)
    have HPV := Lib.hid hpv
    have HV12 := Lib.hid hv12
    have HFa := Lib.hid (fix_allE (v := v) u (prob_V hpv) hv12)
    have HFb := Lib.hid (fix_allE (v := v) (inV u v) (prob_V hpv) hv12)
    clear hu hpv hpm hv12
    go_wp2_with fail
    refine (cpProblem_same _ _ _ _ _ (fixK p v) _ hNu HNu.out FX1.out.rdAt FW0.out.rdAt).mono ?_
    rintro e w5 ⟨rfl, hb⟩
    have HB5 := Lib.hid (bl_trans HB4.out hb)
    have HP4 := Lib.hid (HP3.out.later hb)
    have HV4 := Lib.hid (HV3.out.later hb)
    have HU3 := Lib.hid (HU2.out.later hb)
    have FX2 := Lib.hid (FX1.out.below hb)
    have FW1 := Lib.hid (FW0.out.below hb)
    clear hb HP3 HV3 HU2 FX1 FW0 HB4
    by_cases h12 : kb = 12
    · subst h12
      obtain ⟨i0, hi, hz0, hz1, hz2⟩ := info_parts Try.infoBool
      have HI := Lib.hid hi
      have HZ0 := Lib.hid hz0
      have HZ1 := Lib.hid hz1
      have HZ2 := Lib.hid hz2
      obtain ⟨b0, off, rfl, hbl, hc⟩ := (HU3.out) (by omega)
      have Hc := Lib.hid hc
      have Hlen := Lib.hid (show (valB u 12).length = 12 * 1 by rw [valB_len])
      have Hone := Lib.hid (valB_one u 12)
      have HcA := Lib.hid (show 0 < 12 → ∀ j x, (valB u 12)[j]? = some x → (w5.alloc (.cells #[] 4)).cell? (Addr.add ⟨b0, off, none⟩ j) = some x from fun _ j x hj => by
        obtain ⟨hj1, rfl⟩ := valB_inv hj
        rw [Addr.add_lit]
        exact Lib.cell?_alloc_some _ (Hc.out j hj1))
      have HR0 := Lib.hid (rowX_new w5 4 1)
      clear hc hi hz0 hz1 hz2
      go_wp2_with (at_builtin; refine wpList_plain (by rfl) fun K' hK' => ?_; refine wpX_cp _ _ 40 4 (by rfl) (by rfl) i0 _ 1 1 Try.underlying40 HI.out HZ0.out HZ1.out HZ2.out rfl (by omega) (B0 := w5.heap.size) (by rfl) (by rfl) Hlen.out HR0.out (by intro j hj; cases hj; exact Nat.le_refl _) HcA.out Hone.out (by unfold maxLen; omega) (by omega) (by simp) ?_; intro A7 cap7 w7 hov hb7; have Hb7 := Lib.hid ((bl_alloc (Below.refl w5.heap.size w5) (.cells #[] 4)).trans hb7); have Hov := Lib.hid hov; clear hov hb7 HcA HR0; obtain ⟨g, rfl, hg, ho⟩ := Hov.out.bools (by omega); have HO := Lib.hid ho; clear Hov ho; refine hK' _ _ ?_; clear hK' K')
      have h00 := inK_zero u v
      have H00 := Lib.hid h00
      clear h00
      go_loopw [14] (fun i wr => ∃ k : Nat, k ≤ 12 ∧ i = .int .i64 k ∧ OwnVb wr g 4 12 12 (inK u v k) ∧ Below w5.heap.size w5 wr) (fun i _ => 12 - (intOf i).toNat)
      case atStart => exact ⟨0, Nat.zero_le _, rfl, by rw [H00.out]; exact HO.out, Hb7.out⟩
      case round =>
        obtain ⟨k, hk, rfl, ho, hb⟩ := hrel
        have HOk := Lib.hid ho
        have HBk := Lib.hid hb
        by_cases hlt : k < 12
        · obtain ⟨bv, offv, rfl, hbv, hcv⟩ := (HV4.out.later hb) (by omega)
          have hck := hcv k hlt
          have hgz : g < wr.heap.size := ho.lt
          have hkI : (k : Int) < 12 := by omega
          have hk0 : (0 : Int) ≤ (k : Int) := by omega
          clear hcv ho hb HO Hb7 H00
          by_cases hz : v k = 0
          · have HS := Lib.hid (inK_same (u := u) hz)
            rw [hz] at hck
            clear hz
            go_wp2
            go_roundw
            case rel => exact ⟨k + 1, by omega, by go_num, by rw [HS.out]; exact HOk.out, HBk.out⟩
            case measure => simp [intOf]; omega
          · have HT := Lib.hid (HOk.out.turn (i := k) hlt (fun j hj => inK_put (u := u) (v := v) (k := k) (b := decide (0 < v k)) (if_neg hz) j hj))
            obtain ⟨cs9, hh9, _, hv9⟩ := HOk.out
            have hy1 := (cell_of_row wr g k cs9 _ _ hh9).trans (hv9 k hlt)
            have hf1 : wr.frozen? ⟨g, k, none⟩ = false := by simp [World.frozen?, hh9]
            have HB9 := Lib.hid (HBk.out.setCell (p := ⟨g, k, none⟩) hg (.bool (decide (0 < v k))))
            have hzb : (v k == 0) = false := by rw [beq_eq_false_iff_ne]; exact hz
            clear hh9 hv9
            go_wp2
            go_roundw
            case rel => exact ⟨k + 1, by omega, by go_num, HT.out, HB9.out⟩
            case measure => simp [intOf]; omega
        · have e : k = 12 := by omega
          subst e
          have HRB := Lib.hid (show RdB wr wr.heap.size (some ⟨g, 0, none⟩) 12 (inV u v) from OwnVb.rdAt (by
            obtain ⟨cs9, hh9, h99, hv9⟩ := ho
            exact ⟨cs9, hh9, h99, fun i hi => by rw [hv9 i hi]; unfold inK; rw [if_pos hi]⟩))
          have HB6 := Lib.hid (bl_trans HB5.out hb)
          have HP5 := Lib.hid (HP4.out.later hb)
          have HV5 := Lib.hid (HV4.out.later hb)
          have HU4 := Lib.hid (HU3.out.later hb)
          have FX3 := Lib.hid (FX2.out.below hb)
          have FW2 := Lib.hid (FW1.out.below hb)
          clear hb ho HO Hb7 H00 HOk HBk HP4 HV4 HU3 FX2 FW1 HB5
          obtain ⟨tt, htt⟩ : ∃ tt, allE p (inV u v) kl = tt := ⟨_, rfl⟩
          have E1 := Lib.hid (show satB (fixN kl p 12 v) (fixK p v) 12 u = tt by rw [HNe.out, satB_yes HPX.out, HFa.out, htt])
          have E2 := Lib.hid (show satB kl p 12 (inV u v) = tt by rw [satB_yes HPV.out, htt])
          have E3 := Lib.hid (show satB (fixN kl p 12 v) (fixK p v) 12 (inV u v) = tt by rw [HNe.out, satB_yes HPX.out, HFb.out, inV_twice, htt])
          have E0 := Lib.hid (show probB (fixN kl p 12 v) (fixK p v) = true by rw [HNe.out, HPX.out])
          clear htt
          have HRB0 := HRB
          clear HRB
          go_wp2_with fail
          refine (implProblem_any _ _ _ (fixK p v) _ hNu HNu.out FX3.out.rdAt).mono ?_
          rintro e w8 ⟨rfl, hb⟩
          rw [E0.out]
          have HB7 := Lib.hid (bl_trans HB6.out hb)
          have HP6 := Lib.hid (HP5.out.later hb)
          have HV6 := Lib.hid (HV5.out.later hb)
          have HU5 := Lib.hid (HU4.out.later hb)
          have FX4 := Lib.hid (FX3.out.below hb)
          have FW3 := Lib.hid (FW2.out.below hb)
          have HRB1 := Lib.hid (HRB0.out.later hb)
          clear hb HP5 HV5 HU4 FX3 FW2 HRB0 HB6
          go_wp2_with fail
          refine (implSat_any _ _ _ _ _ _ (fixK p v) u _ hNu HNu.out (by omega) FX4.out.rdAt HU5.out).mono ?_
          rintro e w9 ⟨rfl, hb⟩
          rw [E1.out]
          have HB8 := Lib.hid (bl_trans HB7.out hb)
          have HP7 := Lib.hid (HP6.out.later hb)
          have HV7 := Lib.hid (HV6.out.later hb)
          have HU6 := Lib.hid (HU5.out.later hb)
          have FX5 := Lib.hid (FX4.out.below hb)
          have FW4 := Lib.hid (FW3.out.below hb)
          have HRB2 := Lib.hid (HRB1.out.later hb)
          clear hb HP6 HV6 HU5 FX4 FW3 HRB1 HB7
          go_wp2_with fail
          refine (implSat_any _ _ _ _ _ _ p (inV u v) _ hklB HN.out (by omega) HP7.out HRB2.out).mono ?_
          rintro e w10 ⟨rfl, hb⟩
          rw [E2.out]
          have HB9 := Lib.hid (bl_trans HB8.out hb)
          have HP8 := Lib.hid (HP7.out.later hb)
          have HV8 := Lib.hid (HV7.out.later hb)
          have HU7 := Lib.hid (HU6.out.later hb)
          have FX6 := Lib.hid (FX5.out.below hb)
          have FW5 := Lib.hid (FW4.out.below hb)
          have HRB3 := Lib.hid (HRB2.out.later hb)
          clear hb HP7 HV7 HU6 FX5 FW4 HRB2 HB8
          go_wp2_with fail
          refine (implSat_any _ _ _ _ _ _ (fixK p v) (inV u v) _ hNu HNu.out (by omega) FX6.out.rdAt HRB3.out).mono ?_
          rintro e w11 ⟨rfl, hb⟩
          rw [E3.out]
          have HB10 := Lib.hid (bl_trans HB9.out hb)
          have HP9 := Lib.hid (HP8.out.later hb)
          have HV9 := Lib.hid (HV8.out.later hb)
          have HU8 := Lib.hid (HU7.out.later hb)
          have FX7 := Lib.hid (FX6.out.below hb)
          have FW6 := Lib.hid (FW5.out.below hb)
          have HRB4 := Lib.hid (HRB3.out.later hb)
          clear hb HP8 HV8 HU7 FX6 FW5 HRB3 HB9
          go_wp2_with fail
          refine (implSat_any _ _ _ _ _ _ p (inV u v) _ hklB HN.out (by omega) HP9.out HRB4.out).mono ?_
          rintro e w12 ⟨rfl, hb⟩
          rw [E2.out]
          have HB11 := Lib.hid (bl_trans HB10.out hb)
          have HP10 := Lib.hid (HP9.out.later hb)
          have HV10 := Lib.hid (HV9.out.later hb)
          have HU9 := Lib.hid (HU8.out.later hb)
          have FX8 := Lib.hid (FX7.out.below hb)
          have FW7 := Lib.hid (FW6.out.below hb)
          have HRB5 := Lib.hid (HRB4.out.later hb)
          clear hb HP9 HV9 HU8 FX7 FW6 HRB4 HB10
          go_wp2
          go_ret
          exact ⟨ret_bool (by simp), HB11.out⟩
    · have h12' : ((kb : Int) == 12) = false := by rw [beq_eq_false_iff_ne]; omega
      clear h12
      go_wp2_with fail
      refine (cpProblem_same _ _ _ _ _ (fixK p v) _ hNu HNu.out FX2.out.rdAt FW1.out.rdAt).mono ?_
      rintro e w6 ⟨rfl, hb⟩
      have HB6 := Lib.hid (bl_trans HB5.out hb)
      have HP5 := Lib.hid (HP4.out.later hb)
      have HV5 := Lib.hid (HV4.out.later hb)
      have HU4 := Lib.hid (HU3.out.later hb)
      have FX3 := Lib.hid (FX2.out.below hb)
      have FW2 := Lib.hid (FW1.out.below hb)
      clear hb HP4 HV4 HU3 FX2 FW1 HB5
      go_wp2
      go_ret
      exact ⟨rfl, HB6.out⟩

set_option linter.unusedVariables false in
set_option maxRecDepth 100000 in
set_option maxHeartbeats 1600000 in
theorem lawFnFixPartial_walk (A0 : Option Addr) (n0 cap0 : Nat) (y0 : Nat → Int) (A1 : Option Addr) (n1 cap1 : Nat) (y1 : Nat → Int) (w : World) (hm0 : n0 ≤ maxLen) (hc0 : n0 ≤ cap0) (hr0 : RdY w w.heap.size A0 n0 y0) (hm1 : n1 ≤ maxLen) (hc1 : n1 ≤ cap1) (hr1 : RdY w w.heap.size A1 n1 y1) :
    Calls Try.prog 5 #[.slice A0 n0 cap0, .slice A1 n1 cap1] w fun e w' => e = .returned (.bool true) ∧ Below w.heap.size w w' := by
  by_cases h0 : n0 ≤ 1048576
  · by_cases h1 : n1 ≤ 1048576
    · exact lawFnFixPartial_ok A0 A1 n0 cap0 n1 cap1 y0 y1 w h0 h1 hc0 hc1 hr0 hr1
    · unfold maxLen at hm1
      have hi0 : ¬ (1048576 : Int) < (n0 : Int) := by omega
      have hi1 : (1048576 : Int) < (n1 : Int) := by omega
      go_enter Try.func5, Try.ntmps5
      go_wp2
      go_ret
      exact ⟨rfl, Below.refl _ _⟩
  · unfold maxLen at hm0
    have hi0 : (1048576 : Int) < (n0 : Int) := by omega
    go_enter Try.func5, Try.ntmps5
    go_wp2
    go_ret
    exact ⟨rfl, Below.refl _ _⟩
end Go.Proofs.Ytbebdhjhlheboaa
