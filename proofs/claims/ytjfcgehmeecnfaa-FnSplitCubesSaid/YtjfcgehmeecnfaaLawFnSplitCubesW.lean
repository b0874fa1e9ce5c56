/- The walk of the law FnSplitCubes (no claim of its own). Conditions: as each theorem states. -/
import Derived.Test.YtjfcgehmeecnfaaCdrS
import Derived.Test.YtjfcgehmeecnfaaCbcM
import Derived.Test.YtjfcgehmeecnfaaCbsQ
import Derived.Test.YtjfcgehmeecnfaaCubH
namespace Go.Proofs.Ytjfcgehmeecnfaa
open Go.ChangeShapes Go.WideShapes Go.ChangeAt Go.RowKit

set_option linter.unusedVariables false in
set_option maxRecDepth 100000 in
set_option maxHeartbeats 6400000 in
theorem lawFnSplitCubes_ok (A0 A1 : Option Addr) (n0 cap0 n1 cap1 : Nat) (y0 y1 : Nat → Int) (w : World) (h0 : n0 ≤ 1048576) (h1 : n1 ≤ 1048576) (hc0 : n0 ≤ cap0) (hc1 : n1 ≤ cap1) (hr0 : RdY w w.heap.size A0 n0 y0) (hr1 : RdY w w.heap.size A1 n1 y1) :
    Calls Try.prog 9 #[.slice A0 n0 cap0, .slice A1 n1 cap1] w fun e w' => e = .returned (.bool true) ∧ Below w.heap.size w w' := by
  have hm0 : n0 ≤ maxLen := by unfold maxLen; omega
  have hm1 : n1 ≤ maxLen := by unfold maxLen; omega
  have hi0 : ¬ (1048576 : Int) < (n0 : Int) := by omega
  have hi1 : ¬ (1048576 : Int) < (n1 : Int) := by omega
  go_enter Try.func9, Try.ntmps9
  go_wp2_with fail
  refine (drawSplit_any _ _ _ y0 _ hm0 hc0 hr0).mono ?_
  rintro e w1 ⟨Ac, m, capc, c, rfl, hm, hrc, hb⟩
  have HB1 := Lib.hid hb
  have HC0 := Lib.hid hrc
  clear hb 
  have hmB : m ≤ 1048576 := by omega
  clear hrc
  go_wp2_with fail
  refine (drawCubeH_any _ _ _ y1 _ hm1 hc1 (hr1.later HB1.out)).mono ?_
  rintro e w2 ⟨Aq, kq, capq, cq, Av, kv, capv, v, rfl, _, hkv, _, hrv, hb⟩
  have HB2 := Lib.hid (bl_trans HB1.out hb)
  have HC1 := Lib.hid (HC0.out.later hb)
  have HV0 := Lib.hid hrv
  clear hb HC0 HB1
  have hkvB : kv ≤ 1048576 := by omega
  clear hrv
  go_wp2_with fail
  refine (implSplit_any _ _ _ c _ hmB HC1.out).mono ?_
  rintro e w3 ⟨Ax, capx, rfl, hfx, hb⟩
  have HB3 := Lib.hid (bl_trans HB2.out hb)
  have HC2 := Lib.hid (HC1.out.later hb)
  have HV1 := Lib.hid (HV0.out.later hb)
  have FX0 := Lib.hid hfx
  clear hb HC1 HV0 HB2
  clear hfx
  go_wp2_with fail
  refine (specSplit_any _ _ _ c _ hmB HC2.out).mono ?_
  rintro e w4 ⟨Aw, capw, rfl, hfw, hb⟩
  have HB4 := Lib.hid (bl_trans HB3.out hb)
  have HC3 := Lib.hid (HC2.out.later hb)
  have HV2 := Lib.hid (HV1.out.later hb)
  have FX1 := Lib.hid (FX0.out.below hb)
  have FW0 := Lib.hid hfw
  clear hb HC2 HV1 FX0 HB3
  clear hfw
  have hNu : splN m c ≤ 1048576 := Nat.le_trans (splN_le _ _) (by omega)
  have HNu := Lib.hid (spl_all m c)
  cases hu : varsB m c with
  | false =>
    clear hu
    go_wp2_with fail
    refine (cpLists_same _ _ _ _ _ (cbL c m) _ hNu HNu.out FX1.out.rdAt FW0.out.rdAt).mono ?_
    rintro e w5 ⟨rfl, hb⟩
    have HB5 := Lib.hid (bl_trans HB4.out hb)
    have HC4 := Lib.hid (HC3.out.later hb)
    have HV3 := Lib.hid (HV2.out.later hb)
    have FX2 := Lib.hid (FX1.out.below hb)
    have FW1 := Lib.hid (FW0.out.below hb)
    clear hb HC3 HV2 FX1 FW0 HB4
    go_wp2_with fail
    refine (cpLists_same _ _ _ _ _ (cbL c m) _ hNu HNu.out FX2.out.rdAt FW1.out.rdAt).mono ?_
    rintro e w6 ⟨rfl, hb⟩
    have HB6 := Lib.hid (bl_trans HB5.out hb)
    have HC5 := Lib.hid (HC4.out.later hb)
    have HV4 := Lib.hid (HV3.out.later hb)
    have FX3 := Lib.hid (FX2.out.below hb)
    have FW2 := Lib.hid (FW1.out.below hb)
    clear hb HC4 HV3 FX2 FW1 HB5
    go_wp2
    go_ret
    exact ⟨rfl, HB6.out⟩
  | true =>
    have h4 := vars_4 hu
    have HU := Lib.hid hu
    clear hu
    by_cases h12 : kv = 12
    · subst h12
      go_wp2_with fail
      refine (cpLists_same _ _ _ _ _ (cbL c m) _ hNu HNu.out FX1.out.rdAt FW0.out.rdAt).mono ?_
      rintro e w5 ⟨rfl, hb⟩
      have HB5 := Lib.hid (bl_trans HB4.out hb)
      have HC4 := Lib.hid (HC3.out.later hb)
      have HV3 := Lib.hid (HV2.out.later hb)
      have FX2 := Lib.hid (FX1.out.below hb)
      clear hb HC3 HV2 FX1 FW0 HB4
      obtain ⟨M, hM⟩ : ∃ M, 2 ^ m = M := ⟨_, rfl⟩
      obtain ⟨hwM, hM16, hM1⟩ := wrap_pow h4 hM
      have hsM : splN m c = M := (splN_yes HU.out).trans hM
      have HCn := Lib.hid (show cntT (fun j => holdsB m (cbL c m j).x 12 v) M = 1 from hM ▸ cb_holds HU.out)
      have HX := Lib.hid FX2.out.rdAt
      have HwM := Lib.hid hwM
      rw [hsM] at HX ⊢
      clear hwM hM
      go_wp2
      have HVl := Lib.hid HV3.out
      have HBl := Lib.hid HB5.out
      clear HV3 HC4 FX2 HB5
      go_loopw [12, 13] (fun q i wr => ∃ j : Nat, j ≤ M ∧ i = .int .i64 j ∧ q = .int .i64 (cntT (fun j => holdsB m (cbL c m j).x 12 v) j : Nat) ∧ Below w5.heap.size w5 wr) (fun _ i _ => M - (intOf i).toNat)
      case atStart => exact ⟨0, Nat.zero_le _, rfl, rfl, Below.refl _ _⟩
      case round =>
        obtain ⟨j, hj, rfl, rfl, hb⟩ := hrel
        have HB := Lib.hid hb
        clear hb
        have hle := cntT_le (fun j => holdsB m (cbL c m j).x 12 v) j
        by_cases hlt : j < M
        · obtain ⟨b, off, rfl, hbl, hcc⟩ := (HX.out.later HB.out) (by omega)
          obtain ⟨Ai, ci, hx0, hx2⟩ := hcc j hlt
          have HI := Lib.hid hx2
          have hjI : (j : Int) < (M : Int) := by omega
          have hj0 : (0 : Int) ≤ (j : Int) := by omega
          obtain ⟨q, hq⟩ : ∃ q : Nat, cntT (fun j => holdsB m (cbL c m j).x 12 v) j = q := ⟨_, rfl⟩
          have Hq := Lib.hid hq
          rw [hq] at hle ⊢
          clear hcc hx2 hq
          have hmu : (cbL c m j).n = m := rfl
          rw [hmu] at hx0
          go_wp2_with fail
          refine (implHolds_any _ _ _ _ _ _ (cbL c m j).x v _ hmB (show (12 : Nat) ≤ 1048576 by omega) HI.out (HVl.out.later HB.out)).mono ?_
          rintro e w9 ⟨rfl, hb9⟩
          have HB9 := Lib.hid (bl_trans HB.out hb9)
          clear hb9 hx0 HI
          cases hv : holdsB m (cbL c m j).x 12 v with
          | true =>
            have HN := Lib.hid (show cntT (fun j => holdsB m (cbL c m j).x 12 v) (j + 1) = q + 1 from by show cntT (fun j => holdsB m (cbL c m j).x 12 v) j + (if holdsB m (cbL c m j).x 12 v = true then 1 else 0) = _; rw [Hq.out, hv]; rfl)
            clear hv
            go_wp2
            go_roundw
            case rel => exact ⟨j + 1, by omega, by go_num, by rw [HN.out]; go_num, HB9.out⟩
            case measure => simp [intOf]; omega
          | false =>
            have HN := Lib.hid (show cntT (fun j => holdsB m (cbL c m j).x 12 v) (j + 1) = q + 0 from by show cntT (fun j => holdsB m (cbL c m j).x 12 v) j + (if holdsB m (cbL c m j).x 12 v = true then 1 else 0) = _; rw [Hq.out, hv]; rfl)
            clear hv
            go_wp2
            go_roundw
            case rel => exact ⟨j + 1, by omega, by go_num, by rw [HN.out]; rfl, HB9.out⟩
            case measure => simp [intOf]; omega
        · obtain rfl : j = M := by omega
          rw [HCn.out]
          have hwM := HwM.out
          go_wp2
          go_ret
          exact ⟨ret_bool (by simp), bl_trans HBl.out HB.out⟩
    · have hk2 : ((kv : Int) == 12) = false := by rw [beq_eq_false_iff_ne]; omega
      go_wp2_with fail
      refine (cpLists_same _ _ _ _ _ (cbL c m) _ hNu HNu.out FX1.out.rdAt FW0.out.rdAt).mono ?_
      rintro e w5 ⟨rfl, hb⟩
      have HB5 := Lib.hid (bl_trans HB4.out hb)
      have HC4 := Lib.hid (HC3.out.later hb)
      have HV3 := Lib.hid (HV2.out.later hb)
      have FX2 := Lib.hid (FX1.out.below hb)
      have FW1 := Lib.hid (FW0.out.below hb)
      clear hb HC3 HV2 FX1 FW0 HB4
      go_wp2_with fail
      refine (cpLists_same _ _ _ _ _ (cbL c m) _ hNu HNu.out FX2.out.rdAt FW1.out.rdAt).mono ?_
      rintro e w6 ⟨rfl, hb⟩
      have HB6 := Lib.hid (bl_trans HB5.out hb)
      have HC5 := Lib.hid (HC4.out.later hb)
      have HV4 := Lib.hid (HV3.out.later hb)
      have FX3 := Lib.hid (FX2.out.below hb)
      have FW2 := Lib.hid (FW1.out.below hb)
      clear hb HC4 HV3 FX2 FW1 HB5
      go_wp2
      go_ret
      exact ⟨rfl, HB6.out⟩

set_option linter.unusedVariables false in
set_option maxRecDepth 100000 in
set_option maxHeartbeats 1600000 in
theorem lawFnSplitCubes_walk (A0 : Option Addr) (n0 cap0 : Nat) (y0 : Nat → Int) (A1 : Option Addr) (n1 cap1 : Nat) (y1 : Nat → Int) (w : World) (hm0 : n0 ≤ maxLen) (hc0 : n0 ≤ cap0) (hr0 : RdY w w.heap.size A0 n0 y0) (hm1 : n1 ≤ maxLen) (hc1 : n1 ≤ cap1) (hr1 : RdY w w.heap.size A1 n1 y1) :
    Calls Try.prog 9 #[.slice A0 n0 cap0, .slice A1 n1 cap1] w fun e w' => e = .returned (.bool true) ∧ Below w.heap.size w w' := by
  by_cases h0 : n0 ≤ 1048576
  · by_cases h1 : n1 ≤ 1048576
    · exact lawFnSplitCubes_ok A0 A1 n0 cap0 n1 cap1 y0 y1 w h0 h1 hc0 hc1 hr0 hr1
    · unfold maxLen at hm1
      have hi0 : ¬ (1048576 : Int) < (n0 : Int) := by omega
      have hi1 : (1048576 : Int) < (n1 : Int) := by omega
      go_enter Try.func9, Try.ntmps9
      go_wp2
      go_ret
      exact ⟨rfl, Below.refl _ _⟩
  · unfold maxLen at hm0
    have hi0 : (1048576 : Int) < (n0 : Int) := by omega
    go_enter Try.func9, Try.ntmps9
    go_wp2
    go_ret
    exact ⟨rfl, Below.refl _ _⟩
end Go.Proofs.Ytjfcgehmeecnfaa
