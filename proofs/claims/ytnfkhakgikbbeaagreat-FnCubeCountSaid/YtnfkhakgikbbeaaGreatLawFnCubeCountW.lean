/- The walk of the law FnCubeCount (no claim of its own). Conditions: as each theorem states. -/
import Derived.Test.YtnfkhakgikbbeaaGreatCqZ
import Derived.Test.YtnfkhakgikbbeaaGreatCcZ
namespace Go.Proofs.YtnfkhakgikbbeaaGreat
open Go.ChangeShapes Go.WideShapes Go.ChangeAt Go.RowKit

set_option linter.unusedVariables false in
set_option maxRecDepth 100000 in
set_option maxHeartbeats 6400000 in
theorem lawFnCubeCount_ok (A0 A1 : Option Addr) (n0 cap0 n1 cap1 : Nat) (y0 y1 : Nat → Int) (w : World) (h0 : n0 ≤ 1048576) (h1 : n1 ≤ 1048576) (hc0 : n0 ≤ cap0) (hc1 : n1 ≤ cap1) (hr0 : RdY w w.heap.size A0 n0 y0) (hr1 : RdY w w.heap.size A1 n1 y1) :
    Calls Tryz.prog 3 #[.slice A0 n0 cap0, .slice A1 n1 cap1] w fun e w' => e = .returned (.bool true) ∧ Below w.heap.size w w' := by
  have hm0 : n0 ≤ maxLen := by unfold maxLen; omega
  have hm1 : n1 ≤ maxLen := by unfold maxLen; omega
  have hi0 : ¬ (1048576 : Int) < (n0 : Int) := by omega
  have hi1 : ¬ (1048576 : Int) < (n1 : Int) := by omega
  go_enter Tryz.func3, Tryz.ntmps3
  go_wp2_with fail
  refine (drawCubeP_any _ _ _ y0 _ hm0 hc0 hr0).mono ?_
  rintro e w1 ⟨Al, kl, capl, p, Aq, mq, capq, cq, rfl, hkl, hN, hmq, hrp, hrq, hb⟩
  have HB1 := Lib.hid hb
  have HP0 := Lib.hid hrp
  clear hb 
  have HNp := Lib.hid (fun i hi => Nat.le_trans (hN i hi) (show 15 ≤ 1048576 by omega))
  have hklB : kl ≤ 1048576 := by omega
  clear hrp hrq hN
  go_wp2_with fail
  refine (drawSplit_any _ _ _ y1 _ hm1 hc1 (hr1.later HB1.out)).mono ?_
  rintro e w2 ⟨Ac, m, capc, c, rfl, hm, hrc, hb⟩
  have HB2 := Lib.hid (bl_trans HB1.out hb)
  have HP1 := Lib.hid (HP0.out.later hb)
  have HC0 := Lib.hid hrc
  clear hb HP0 HB1
  have hmB : m ≤ 1048576 := by omega
  clear hrc
  go_wp2_with fail
  refine (implSplit_any _ _ _ c _ hmB HC0.out).mono ?_
  rintro e w3 ⟨Ax, capx, rfl, hfx, hb⟩
  have HB3 := Lib.hid (bl_trans HB2.out hb)
  have HP2 := Lib.hid (HP1.out.later hb)
  have HC1 := Lib.hid (HC0.out.later hb)
  have FX0 := Lib.hid hfx
  clear hb HP1 HC0 HB2
  clear hfx
  go_wp2_with fail
  refine (specSplit_any _ _ _ c _ hmB HC1.out).mono ?_
  rintro e w4 ⟨Aw, capw, rfl, hfw, hb⟩
  have HB4 := Lib.hid (bl_trans HB3.out hb)
  have HP3 := Lib.hid (HP2.out.later hb)
  have HC2 := Lib.hid (HC1.out.later hb)
  have FX1 := Lib.hid (FX0.out.below hb)
  have FW0 := Lib.hid hfw
  clear hb HP2 HC1 FX0 HB3
  clear hfw
  have hNu : splN m c ≤ 1048576 := Nat.le_trans (splN_le _ _) (by omega)
  have HNu := Lib.hid (spl_all m c)
  cases hu : varsB m c with
  | false =>
    clear hu
    go_wp2_with fail
    refine (cpLists_same _ _ _ _ _ (cbL c m) _ hNu HNu.out FX1.out.rdAt FW0.out.rdAt).mono ?_
    rintro e w5 ⟨rfl, hb⟩
    have HB5 := Lib.hid (bl_trans HB4.out hb)
    have HP4 := Lib.hid (HP3.out.later hb)
    have HC3 := Lib.hid (HC2.out.later hb)
    have FX2 := Lib.hid (FX1.out.below hb)
    have FW1 := Lib.hid (FW0.out.below hb)
    clear hb HP3 HC2 FX1 FW0 HB4
    go_wp2_with fail
    refine (cpLists_same _ _ _ _ _ (cbL c m) _ hNu HNu.out FX2.out.rdAt FW1.out.rdAt).mono ?_
    rintro e w6 ⟨rfl, hb⟩
    have HB6 := Lib.hid (bl_trans HB5.out hb)
    have HP5 := Lib.hid (HP4.out.later hb)
    have HC4 := Lib.hid (HC3.out.later hb)
    have FX3 := Lib.hid (FX2.out.below hb)
    have FW2 := Lib.hid (FW1.out.below hb)
    clear hb HP4 HC3 FX2 FW1 HB5
    go_wp2
    go_ret
    exact ⟨rfl, HB6.out⟩
  | true =>
    have h4 := vars_4 hu
    have HU := Lib.hid hu
    clear hu
    go_wp2_with fail
    refine (cpLists_same _ _ _ _ _ (cbL c m) _ hNu HNu.out FX1.out.rdAt FW0.out.rdAt).mono ?_
    rintro e w5 ⟨rfl, hb⟩
    have HB5 := Lib.hid (bl_trans HB4.out hb)
    have HP4 := Lib.hid (HP3.out.later hb)
    have HC3 := Lib.hid (HC2.out.later hb)
    have FX2 := Lib.hid (FX1.out.below hb)
    have FW1 := Lib.hid (FW0.out.below hb)
    clear hb HP3 HC2 FX1 FW0 HB4
    go_wp2_with fail
    refine (implProblem_any _ _ _ p _ hklB HNp.out HP4.out.rd).mono ?_
    rintro e w6 ⟨rfl, hb⟩
    have HB6 := Lib.hid (bl_trans HB5.out hb)
    have HP5 := Lib.hid (HP4.out.later hb)
    have HC4 := Lib.hid (HC3.out.later hb)
    have FX3 := Lib.hid (FX2.out.below hb)
    have FW2 := Lib.hid (FW1.out.below hb)
    clear hb HP4 HC3 FX2 FW1 HB5
    cases hv : probB kl p with
    | false =>
      clear hv
      go_wp2_with fail
      refine (cpLists_same _ _ _ _ _ (cbL c m) _ hNu HNu.out FX3.out.rdAt FW2.out.rdAt).mono ?_
      rintro e w6 ⟨rfl, hb⟩
      have HB7 := Lib.hid (bl_trans HB6.out hb)
      have HP6 := Lib.hid (HP5.out.later hb)
      have HC5 := Lib.hid (HC4.out.later hb)
      have FX4 := Lib.hid (FX3.out.below hb)
      have FW3 := Lib.hid (FW2.out.below hb)
      clear hb HP5 HC4 FX3 FW2 HB6
      go_wp2
      go_ret
      exact ⟨rfl, HB7.out⟩
    | true =>
      have HV := Lib.hid hv
      clear hv
      obtain ⟨M, hM⟩ : ∃ M, 2 ^ m = M := ⟨_, rfl⟩
      have hsM : splN m c = M := (splN_yes HU.out).trans hM
      have HM := Lib.hid hM
      have HXa := Lib.hid FX3.out.rdAt
      have HXw := Lib.hid FW2.out.rdAt
      have HNv := HNu
      rw [hsM] at HXa HXw HNv hNu ⊢
      clear hM hsM
      by_cases h8 : 8 < M
      · have h8' : (8 : Int) < (M : Int) := by omega
        go_wp2_with fail
        refine (cpLists_same _ _ _ _ _ (cbL c m) _ hNu HNv.out HXa.out HXw.out).mono ?_
        rintro e w7 ⟨rfl, hb⟩
        have HBe := Lib.hid (bl_trans HB6.out hb)
        clear hb
        go_wp2
        go_ret
        exact ⟨rfl, HBe.out⟩
      · have h8' : ¬ (8 : Int) < (M : Int) := by omega
        have HPl := Lib.hid HP5.out
        have HBl := Lib.hid HB6.out
        clear HP5 HC4 FX3 FW2 HB6
        obtain ⟨tt, htt⟩ : ∃ tt, cntS kl p = tt := ⟨_, rfl⟩
        have HS := Lib.hid (show sumT (fun j => cntS (kl + m) (undP kl p (cbL c m j).x)) M = tt from by rw [← HM.out, ← htt]; exact cnt_cubes HV.out HU.out hkl)
        have HT := Lib.hid htt
        have htl : tt ≤ 4096 := htt ▸ cntS_le8 kl p
        clear htt
        go_wp2
        go_loopw [12, 13] (fun q i wr => ∃ j : Nat, j ≤ M ∧ i = .int .i64 j ∧ q = .int .i64 (sumT (fun j => cntS (kl + m) (undP kl p (cbL c m j).x)) j : Nat) ∧ Below w6.heap.size w6 wr) (fun _ i _ => M - (intOf i).toNat)
        case atStart => exact ⟨0, Nat.zero_le _, rfl, rfl, Below.refl _ _⟩
        case round =>
          obtain ⟨j, hj, rfl, rfl, hb⟩ := hrel
          have HB := Lib.hid hb
          clear hb
          by_cases hlt : j < M
          · obtain ⟨b, off, rfl, hbl, hcc⟩ := (HXa.out.later HB.out) (by omega)
            obtain ⟨Ai, ci, hx0, hx2⟩ := hcc j hlt
            have HI := Lib.hid hx2
            have hjI : (j : Int) < (M : Int) := by omega
            have hj0 : (0 : Int) ≤ (j : Int) := by omega
            have hmo := sumT_mono (f := fun j => cntS (kl + m) (undP kl p (cbL c m j).x)) (show j + 1 ≤ M by omega)
            rw [HS.out] at hmo
            obtain ⟨q, hq⟩ : ∃ q : Nat, sumT (fun j => cntS (kl + m) (undP kl p (cbL c m j).x)) j = q := ⟨_, rfl⟩
            obtain ⟨r, hrr⟩ : ∃ r : Nat, cntS (kl + m) (undP kl p (cbL c m j).x) = r := ⟨_, rfl⟩
            have hqr : q + r ≤ tt := by have e : sumT (fun j => cntS (kl + m) (undP kl p (cbL c m j).x)) (j + 1) = q + r := (by rw [← hq, ← hrr]; rfl); omega
            have HN := Lib.hid (show sumT (fun j => cntS (kl + m) (undP kl p (cbL c m j).x)) (j + 1) = q + r from by rw [← hq, ← hrr]; rfl)
            have Hr := Lib.hid hrr
            rw [hq]
            obtain ⟨hok, hun⟩ := und_yes9 HV.out HU.out hkl j
            have HOk := Lib.hid hok
            have HUn := Lib.hid hun
            have HNq := Lib.hid (und_all kl p m (cbL c m j).x)
            have hmu : (cbL c m j).n = m := rfl
            rw [hmu] at hx0
            clear hcc hx2 hq hrr hmo hok hun
            go_wp2_with fail
            refine (implUnd_any _ _ _ _ _ _ p (cbL c m j).x _ hklB HNp.out hmB (HPl.out.later HB.out) HI.out).mono ?_
            rintro e w8 ⟨A8, cap8, rfl, hf8, hb8⟩
            rw [HUn.out] at hf8 ⊢
            rw [HOk.out]
            have HF8 := Lib.hid hf8.rdAt
            have HB8 := Lib.hid (bl_trans HB.out hb8)
            have HNr := Lib.hid (show ∀ i, i < kl + m → (undP kl p (cbL c m j).x i).n ≤ 1048576 from fun i hi => HNq.out i (by rw [HUn.out]; exact hi))
            clear hf8 hb8 hx0 HI HNq
            go_wp2_with fail
            refine (implCount_any _ _ _ (undP kl p (cbL c m j).x) _ (by omega) HNr.out HF8.out).mono ?_
            rintro e w9 ⟨rfl, hb9⟩
            rw [Hr.out]
            have HB9 := Lib.hid (bl_trans HB8.out hb9)
            clear hb9 HF8 HB8
            go_wp2
            go_roundw
            case rel => exact ⟨j + 1, by omega, by go_num, by rw [HN.out]; go_num, HB9.out⟩
            case measure => simp [intOf]; omega
          · obtain rfl : j = M := by omega
            rw [HS.out]
            go_wp2_with fail
            refine (implCount_any _ _ _ p _ hklB HNp.out (HPl.out.later HB.out).rd).mono ?_
            rintro e w9 ⟨rfl, hb9⟩
            rw [HT.out]
            have HB9 := Lib.hid (bl_trans HBl.out (bl_trans HB.out hb9))
            clear hb9
            go_wp2
            go_ret
            exact ⟨ret_bool (by simp), HB9.out⟩

set_option linter.unusedVariables false in
set_option maxRecDepth 100000 in
set_option maxHeartbeats 1600000 in
theorem lawFnCubeCount_walk (A0 : Option Addr) (n0 cap0 : Nat) (y0 : Nat → Int) (A1 : Option Addr) (n1 cap1 : Nat) (y1 : Nat → Int) (w : World) (hm0 : n0 ≤ maxLen) (hc0 : n0 ≤ cap0) (hr0 : RdY w w.heap.size A0 n0 y0) (hm1 : n1 ≤ maxLen) (hc1 : n1 ≤ cap1) (hr1 : RdY w w.heap.size A1 n1 y1) :
    Calls Tryz.prog 3 #[.slice A0 n0 cap0, .slice A1 n1 cap1] w fun e w' => e = .returned (.bool true) ∧ Below w.heap.size w w' := by
  by_cases h0 : n0 ≤ 1048576
  · by_cases h1 : n1 ≤ 1048576
    · exact lawFnCubeCount_ok A0 A1 n0 cap0 n1 cap1 y0 y1 w h0 h1 hc0 hc1 hr0 hr1
    · unfold maxLen at hm1
      have hi0 : ¬ (1048576 : Int) < (n0 : Int) := by omega
      have hi1 : (1048576 : Int) < (n1 : Int) := by omega
      go_enter Tryz.func3, Tryz.ntmps3
      go_wp2
      go_ret
      exact ⟨rfl, Below.refl _ _⟩
  · unfold maxLen at hm0
    have hi0 : (1048576 : Int) < (n0 : Int) := by omega
    go_enter Tryz.func3, Tryz.ntmps3
    go_wp2
    go_ret
    exact ⟨rfl, Below.refl _ _⟩
end Go.Proofs.YtnfkhakgikbbeaaGreat
