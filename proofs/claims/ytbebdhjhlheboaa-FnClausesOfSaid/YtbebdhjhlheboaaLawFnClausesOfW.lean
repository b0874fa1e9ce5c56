/- The walk of the law FnClausesOf (no claim of its own). Conditions: as each theorem states. -/
import Derived.Test.YtbebdhjhlheboaaDcfA
import Derived.Test.YtbebdhjhlheboaaCofZ
import Derived.Test.YtbebdhjhlheboaaSatC
import Derived.Test.YtbebdhjhlheboaaCplA
import Derived.Test.YtbebdhjhlheboaaEvaB
import Derived.Deep.RegionHeld3
namespace Go.Proofs.Ytbebdhjhlheboaa
open Go.ChangeShapes Go.WideShapes Go.ChangeAt Go.RowKit

set_option linter.unusedVariables false in
set_option maxRecDepth 100000 in
set_option maxHeartbeats 6400000 in
theorem lawFnClausesOf_ok (A0 A1 : Option Addr) (n0 cap0 n1 cap1 : Nat) (y0 y1 : Nat → Int) (w : World) (h0 : n0 ≤ 1048576) (h1 : n1 ≤ 1048576) (hc0 : n0 ≤ cap0) (hc1 : n1 ≤ cap1) (hr0 : RdY w w.heap.size A0 n0 y0) (hr1 : RdY w w.heap.size A1 n1 y1) :
    Calls Try.prog 8 #[.slice A0 n0 cap0, .slice A1 n1 cap1] w fun e w' => e = .returned (.bool true) ∧ Below w.heap.size w w' := by
  have hm0 : n0 ≤ maxLen := by unfold maxLen; omega
  have hm1 : n1 ≤ maxLen := by unfold maxLen; omega
  have hi0 : ¬ (1048576 : Int) < (n0 : Int) := by omega
  have hi1 : ¬ (1048576 : Int) < (n1 : Int) := by omega
  go_enter Try.func8, Try.ntmps8
  go_wp2_with fail
  refine (drawCof_any _ _ _ y0 _ hm0 hc0 hr0).mono ?_
  rintro e w1 ⟨Ac, k, capc, bd, c, l, rfl, hk, hf, hb⟩
  have HB1 := Lib.hid hb
  have HC0 := Lib.hid hf.rdAt
  clear hb 
  have hkB : k ≤ 1048576 := by omega
  clear hf
  go_wp2_with fail
  have v0 : (w1.alloc (.cells #[.slice Ac k capc, .int .i64 bd] 55)).cell? ⟨w1.heap.size, 0, none⟩ = some (.slice Ac k capc) := by go_simp
  have v1 : (w1.alloc (.cells #[.slice Ac k capc, .int .i64 bd] 55)).cell? ⟨w1.heap.size, 1, none⟩ = some (.int .i64 bd) := by go_simp
  refine (drawEval_any _ _ _ y1 _ hm1 hc1 (hr1.later (bl_alloc HB1.out _))).mono ?_
  rintro e w2 ⟨Ad, k2, capd, bd2, c2, l2, Av, kv, capv, u, rfl, hk2, hkv, hrd2, hru, hb1⟩
  have hb := bl_trans (bl_alloc (Below.refl w1.heap.size w1) _) hb1
  replace v0 := kc hb1 v0
  replace v1 := kc hb1 v1
  clear hb1 hrd2
  have HB2 := Lib.hid (bl_trans HB1.out hb)
  have HC1 := Lib.hid (HC0.out.later hb)
  have HU0 := Lib.hid hru
  clear hb hru HC0 HB1 hr0 hr1
  have z1 : w1.heap.size < w2.heap.size := World.block_lt_of_cell? w2 _ v0
  go_wp2_with fail
  refine (implCof_any _ _ _ bd c l _ hkB (HC1.out.later (bl_alloc (Below.refl _ _) _))).mono ?_
  rintro e w3 ⟨Ax, capx, rfl, hfx, hb1⟩
  have hb := bl_trans (bl_alloc (Below.refl w2.heap.size w2) _) hb1
  replace v0 := kc hb v0
  replace v1 := kc hb v1
  clear hb1
  have HB3 := Lib.hid (bl_trans HB2.out hb)
  have HC2 := Lib.hid (HC1.out.later hb)
  have HU1 := Lib.hid (HU0.out.later hb)
  have FX0 := Lib.hid hfx
  clear hb HC1 HU0 HB2
  clear hfx
  go_wp2_with fail
  refine (specCof_any _ _ _ bd c l _ hkB HC2.out).mono ?_
  rintro e w4 ⟨Aw, capw, rfl, hfw, hb⟩
  replace v0 := kc hb v0
  replace v1 := kc hb v1
  have HB4 := Lib.hid (bl_trans HB3.out hb)
  have HC3 := Lib.hid (HC2.out.later hb)
  have HU2 := Lib.hid (HU1.out.later hb)
  have FX1 := Lib.hid (FX0.out.below hb)
  have FW0 := Lib.hid hfw
  clear hb HC2 HU1 FX0 HB3
  clear hfw
  have hNu : cfCnt k c l bd ≤ 1048576 := Nat.le_trans (cfCnt_le _ _ _ _) (by omega)
  have HNu := Lib.hid (cf_all k c l bd)
  cases hu : cfOk k c l bd with
  | false =>
    clear hu
    go_wp2_with fail
    refine (cpProblem_same _ _ _ _ _ (cfK k c l bd) _ hNu HNu.out FX1.out.rdAt FW0.out.rdAt).mono ?_
    rintro e w5 ⟨rfl, hb⟩
    replace v0 := kc hb v0
    replace v1 := kc hb v1
    have HB5 := Lib.hid (bl_trans HB4.out hb)
    have HC4 := Lib.hid (HC3.out.later hb)
    have HU3 := Lib.hid (HU2.out.later hb)
    have FX2 := Lib.hid (FX1.out.below hb)
    have FW1 := Lib.hid (FW0.out.below hb)
    clear hb HC3 HU2 FX1 FW0 HB4
    go_wp2_with fail
    refine (cpProblem_same _ _ _ _ _ (cfK k c l bd) _ hNu HNu.out FX2.out.rdAt FW1.out.rdAt).mono ?_
    rintro e w6 ⟨rfl, hb⟩
    replace v0 := kc hb v0
    replace v1 := kc hb v1
    have HB6 := Lib.hid (bl_trans HB5.out hb)
    have HC5 := Lib.hid (HC4.out.later hb)
    have HU4 := Lib.hid (HU3.out.later hb)
    have FX3 := Lib.hid (FX2.out.below hb)
    have FW2 := Lib.hid (FW1.out.below hb)
    clear hb HC4 HU3 FX2 FW1 HB5
    go_wp2
    go_ret
    exact ⟨rfl, HB6.out⟩
  | true =>
    obtain ⟨hval, h400⟩ := cf_ok hu
    have HPX := Lib.hid (cf_prob9 hu)
    have HE := Lib.hid (show satB (cfCnt k c l bd) (cfK k c l bd) 12 u = evalV k c l bd 12 u from by rw [satB_yes HPX.out, (cf_yes hval h400).2, cf_eval hval])
    clear hu h400
    go_wp2_with fail
    refine (cpProblem_same _ _ _ _ _ (cfK k c l bd) _ hNu HNu.out FX1.out.rdAt FW0.out.rdAt).mono ?_
    rintro e w5 ⟨rfl, hb⟩
    replace v0 := kc hb v0
    replace v1 := kc hb v1
    have HB5 := Lib.hid (bl_trans HB4.out hb)
    have HC4 := Lib.hid (HC3.out.later hb)
    have HU3 := Lib.hid (HU2.out.later hb)
    have FX2 := Lib.hid (FX1.out.below hb)
    have FW1 := Lib.hid (FW0.out.below hb)
    clear hb HC3 HU2 FX1 FW0 HB4
    by_cases h12 : kv = 12
    · subst h12
      obtain ⟨tt, htt⟩ : ∃ tt, evalV k c l bd 12 u = tt := ⟨_, rfl⟩
      have HT := Lib.hid htt
      rw [htt] at HE
      clear htt
      go_wp2_with fail
      go_region_held3 (fun w' => w'.cell? ⟨w1.heap.size, 0, none⟩ = some (.slice Ac k capc) ∧ w'.cell? ⟨w1.heap.size, 1, none⟩ = some (.int .i64 bd)) (go_keep)
        (first
          | (go_at_call 26; refine (implProblem_any _ _ _ (cfK k c l bd) _ hNu HNu.out (FX2.out.below (by repeat (first | exact Below.refl _ _ | refine bl_alloc ?_ _ | refine Below.drew ?_))).rdAt).mono ?_; rintro e w7 ⟨rfl, hb⟩; rw [HPX.out]; have hbx : Below w5.heap.size w5 w7 := bl_trans (by repeat (first | exact Below.refl _ _ | refine bl_alloc ?_ _ | refine Below.drew ?_)) hb; have HB7 := Lib.hid (bl_trans HB5.out hbx); have FX7 := Lib.hid (FX2.out.below hbx); have HU7 := Lib.hid (HU3.out.later hbx); have HC7 := Lib.hid (HC4.out.later hbx); have v0 := kc hbx v0; have v1 := kc hbx v1; clear hb hbx)
          | (go_at_call 27; refine (implSat_any _ _ _ _ _ _ (cfK k c l bd) u _ hNu HNu.out (by omega) (FX7.out.below (by repeat (first | exact Below.refl _ _ | refine bl_alloc ?_ _ | refine Below.drew ?_))).rdAt (HU7.out.later (by repeat (first | exact Below.refl _ _ | refine bl_alloc ?_ _ | refine Below.drew ?_)))).mono ?_; rintro e w8 ⟨rfl, hb⟩; rw [HE.out]; have hbx : Below w7.heap.size w7 w8 := bl_trans (by repeat (first | exact Below.refl _ _ | refine bl_alloc ?_ _ | refine Below.drew ?_)) hb; have HB8 := Lib.hid (bl_trans HB7.out hbx); have HU8 := Lib.hid (HU7.out.later hbx); have HC8 := Lib.hid (HC7.out.later hbx); have v0 := kc hbx v0; have v1 := kc hbx v1; clear hb hbx)
          | (go_at_call 37; refine (implEval_any _ _ _ _ _ _ bd c l u _ hkB (HC8.out.later (by repeat (first | exact Below.refl _ _ | refine bl_alloc ?_ _ | refine Below.drew ?_))) (HU8.out.later (by repeat (first | exact Below.refl _ _ | refine bl_alloc ?_ _ | refine Below.drew ?_)))).mono ?_; rintro e w9 ⟨rfl, hb⟩; rw [HT.out]; have hbx : Below w8.heap.size w8 w9 := bl_trans (by repeat (first | exact Below.refl _ _ | refine bl_alloc ?_ _ | refine Below.drew ?_)) hb; have HB9 := Lib.hid (bl_trans HB8.out hbx); have v0 := kc hbx v0; have v1 := kc hbx v1; clear hb hbx))
      all_goals go_wp2
      all_goals go_ret
      all_goals exact ⟨ret_bool (by simp), HB9.out⟩
    · have h12' : ((kv : Int) == 12) = false := by rw [beq_eq_false_iff_ne]; omega
      clear h12
      go_wp2_with fail
      refine (cpProblem_same _ _ _ _ _ (cfK k c l bd) _ hNu HNu.out FX2.out.rdAt FW1.out.rdAt).mono ?_
      rintro e w6 ⟨rfl, hb⟩
      replace v0 := kc hb v0
      replace v1 := kc hb v1
      have HB6 := Lib.hid (bl_trans HB5.out hb)
      have HC5 := Lib.hid (HC4.out.later hb)
      have HU4 := Lib.hid (HU3.out.later hb)
      have FX3 := Lib.hid (FX2.out.below hb)
      have FW2 := Lib.hid (FW1.out.below hb)
      clear hb HC4 HU3 FX2 FW1 HB5
      go_wp2
      go_ret
      exact ⟨rfl, HB6.out⟩

set_option linter.unusedVariables false in
set_option maxRecDepth 100000 in
set_option maxHeartbeats 1600000 in
theorem lawFnClausesOf_walk (A0 : Option Addr) (n0 cap0 : Nat) (y0 : Nat → Int) (A1 : Option Addr) (n1 cap1 : Nat) (y1 : Nat → Int) (w : World) (hm0 : n0 ≤ maxLen) (hc0 : n0 ≤ cap0) (hr0 : RdY w w.heap.size A0 n0 y0) (hm1 : n1 ≤ maxLen) (hc1 : n1 ≤ cap1) (hr1 : RdY w w.heap.size A1 n1 y1) :
    Calls Try.prog 8 #[.slice A0 n0 cap0, .slice A1 n1 cap1] w fun e w' => e = .returned (.bool true) ∧ Below w.heap.size w w' := by
  by_cases h0 : n0 ≤ 1048576
  · by_cases h1 : n1 ≤ 1048576
    · exact lawFnClausesOf_ok A0 A1 n0 cap0 n1 cap1 y0 y1 w h0 h1 hc0 hc1 hr0 hr1
    · unfold maxLen at hm1
      have hi0 : ¬ (1048576 : Int) < (n0 : Int) := by omega
      have hi1 : (1048576 : Int) < (n1 : Int) := by omega
      go_enter Try.func8, Try.ntmps8
      go_wp2
      go_ret
      exact ⟨rfl, Below.refl _ _⟩
  · unfold maxLen at hm0
    have hi0 : (1048576 : Int) < (n0 : Int) := by omega
    go_enter Try.func8, Try.ntmps8
    go_wp2
    go_ret
    exact ⟨rfl, Below.refl _ _⟩
end Go.Proofs.Ytbebdhjhlheboaa
