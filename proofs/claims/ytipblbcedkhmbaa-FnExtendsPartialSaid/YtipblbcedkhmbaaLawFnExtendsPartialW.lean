/- The walk of the law FnExtendsPartial (no claim of its own). Conditions: as each theorem states. -/
import Derived.Test.YtipblbcedkhmbaaDrxA
import Derived.Test.YtipblbcedkhmbaaExtC
import Derived.Test.YtipblbcedkhmbaaClsA
import Derived.Test.YtipblbcedkhmbaaEvlI
namespace Go.Proofs.Ytipblbcedkhmbaa
open Go.ChangeShapes Go.WideShapes Go.ChangeAt Go.RowKit Go.Shelf

set_option linter.unusedVariables false in
set_option maxRecDepth 100000 in
set_option maxHeartbeats 6400000 in
theorem lawFnExtendsPartial_ok (A0 : Option Addr) (A1 : Option Addr) (n0 cap0 n1 cap1 : Nat) (y0 y1 : Nat → Int) (w : World) (h0 : n0 ≤ 1048576) (h1 : n1 ≤ 1048576) (hc0 : n0 ≤ cap0) (hr0 : RdY w w.heap.size A0 n0 y0) (hc1 : n1 ≤ cap1) (hr1 : RdY w w.heap.size A1 n1 y1) :
    Calls Try.prog 5 #[.slice A0 n0 cap0, .slice A1 n1 cap1] w fun e w' => e = .returned (.bool true) ∧ Below w.heap.size w w' := by
  have hm0 : n0 ≤ maxLen := by unfold maxLen; omega
  have hm1 : n1 ≤ maxLen := by unfold maxLen; omega
  have hi0 : ¬ (1048576 : Int) < (n0 : Int) := by omega
  have hi1 : ¬ (1048576 : Int) < (n1 : Int) := by omega
  go_enter Try.func5, Try.ntmps5
  go_wp2_with fail
  refine (drawExt_any _ _ _ y0 _ hm0 hc0 hr0).mono ?_
  rintro e w1 ⟨Ap, kp, capp, vp, Av, kv, capv, v, rfl, hkp, hkv, hrp, hrv, hb⟩
  have HB1 := Lib.hid hb
  have Hp_1 := Lib.hid hrp
  have Hv_1 := Lib.hid hrv
  have hkpB : kp ≤ 1048576 := by omega
  have hkvB : kv ≤ 1048576 := by omega
  clear hrp hrv
  clear hb
  go_wp2_with fail
  refine (implExt_any _ _ _ _ _ _ vp v _ hkpB hkvB Hp_1.out Hv_1.out).mono ?_
  rintro e w2 ⟨rfl, hb⟩
  have HB2 := Lib.hid (bl_trans HB1.out hb)
  have Hp_2 := Lib.hid (Hp_1.out.later hb)
  have Hv_2 := Lib.hid (Hv_1.out.later hb)
  clear hb HB1 Hp_1 Hv_1
  cases hex : extB kp vp kv v with
  | false =>
    have Hex := Lib.hid hex
    clear hex
    cases hpv : pvB kp vp with
    | false =>
      have Hpv := Lib.hid hpv
      clear hpv
      go_wp2_with fail
      refine (specExt_any _ _ _ _ _ _ vp v _ hkpB hkvB Hp_2.out Hv_2.out).mono ?_
      rintro e w3 ⟨rfl, hb⟩
      have HB3 := Lib.hid (bl_trans HB2.out hb)
      have Hp_3 := Lib.hid (Hp_2.out.later hb)
      have Hv_3 := Lib.hid (Hv_2.out.later hb)
      clear hb HB2 Hp_2 Hv_2
      rw [Hex.out]
      go_wp2_with fail
      refine (implPart_b _ _ _ vp _ hkpB Hp_3.out).mono ?_
      rintro e w4 ⟨rfl, hb⟩
      have HB4 := Lib.hid (bl_trans HB3.out hb)
      have Hp_4 := Lib.hid (Hp_3.out.later hb)
      have Hv_4 := Lib.hid (Hv_3.out.later hb)
      clear hb HB3 Hp_3 Hv_3
      rw [Hpv.out]
      go_wp2_with fail
      refine (specPart_b _ _ _ vp _ hkpB Hp_4.out).mono ?_
      rintro e w5 ⟨rfl, hb⟩
      have HB5 := Lib.hid (bl_trans HB4.out hb)
      have Hp_5 := Lib.hid (Hp_4.out.later hb)
      have Hv_5 := Lib.hid (Hv_4.out.later hb)
      clear hb HB4 Hp_4 Hv_4
      rw [Hpv.out]
      go_wp2_with fail
      refine (specExt_any _ _ _ _ _ _ vp v _ hkpB hkvB Hp_5.out Hv_5.out).mono ?_
      rintro e w6 ⟨rfl, hb⟩
      have HB6 := Lib.hid (bl_trans HB5.out hb)
      have Hp_6 := Lib.hid (Hp_5.out.later hb)
      have Hv_6 := Lib.hid (Hv_5.out.later hb)
      clear hb HB5 Hp_5 Hv_5
      rw [Hex.out]
      go_wp2_with fail
      refine (implPart_b _ _ _ vp _ hkpB Hp_6.out).mono ?_
      rintro e w7 ⟨rfl, hb⟩
      have HB7 := Lib.hid (bl_trans HB6.out hb)
      have Hp_7 := Lib.hid (Hp_6.out.later hb)
      have Hv_7 := Lib.hid (Hv_6.out.later hb)
      clear hb HB6 Hp_6 Hv_6
      rw [Hpv.out]
      go_wp2_with fail
      refine (specPart_b _ _ _ vp _ hkpB Hp_7.out).mono ?_
      rintro e w8 ⟨rfl, hb⟩
      have HB8 := Lib.hid (bl_trans HB7.out hb)
      have Hp_8 := Lib.hid (Hp_7.out.later hb)
      have Hv_8 := Lib.hid (Hv_7.out.later hb)
      clear hb HB7 Hp_7 Hv_7
      rw [Hpv.out]
      go_wp2
      go_ret
      exact ⟨rfl, HB8.out⟩
    | true =>
      have Hpv := Lib.hid hpv
      clear hpv
      go_wp2_with fail
      refine (specExt_any _ _ _ _ _ _ vp v _ hkpB hkvB Hp_2.out Hv_2.out).mono ?_
      rintro e w3 ⟨rfl, hb⟩
      have HB3 := Lib.hid (bl_trans HB2.out hb)
      have Hp_3 := Lib.hid (Hp_2.out.later hb)
      have Hv_3 := Lib.hid (Hv_2.out.later hb)
      clear hb HB2 Hp_2 Hv_2
      rw [Hex.out]
      go_wp2_with fail
      refine (implPart_b _ _ _ vp _ hkpB Hp_3.out).mono ?_
      rintro e w4 ⟨rfl, hb⟩
      have HB4 := Lib.hid (bl_trans HB3.out hb)
      have Hp_4 := Lib.hid (Hp_3.out.later hb)
      have Hv_4 := Lib.hid (Hv_3.out.later hb)
      clear hb HB3 Hp_3 Hv_3
      rw [Hpv.out]
      go_wp2_with fail
      refine (specPart_b _ _ _ vp _ hkpB Hp_4.out).mono ?_
      rintro e w5 ⟨rfl, hb⟩
      have HB5 := Lib.hid (bl_trans HB4.out hb)
      have Hp_5 := Lib.hid (Hp_4.out.later hb)
      have Hv_5 := Lib.hid (Hv_4.out.later hb)
      clear hb HB4 Hp_4 Hv_4
      rw [Hpv.out]
      go_wp2_with fail
      refine (specExt_any _ _ _ _ _ _ vp v _ hkpB hkvB Hp_5.out Hv_5.out).mono ?_
      rintro e w6 ⟨rfl, hb⟩
      have HB6 := Lib.hid (bl_trans HB5.out hb)
      have Hp_6 := Lib.hid (Hp_5.out.later hb)
      have Hv_6 := Lib.hid (Hv_5.out.later hb)
      clear hb HB5 Hp_5 Hv_5
      rw [Hex.out]
      go_wp2_with fail
      refine (implPart_b _ _ _ vp _ hkpB Hp_6.out).mono ?_
      rintro e w7 ⟨rfl, hb⟩
      have HB7 := Lib.hid (bl_trans HB6.out hb)
      have Hp_7 := Lib.hid (Hp_6.out.later hb)
      have Hv_7 := Lib.hid (Hv_6.out.later hb)
      clear hb HB6 Hp_6 Hv_6
      rw [Hpv.out]
      go_wp2_with fail
      refine (specPart_b _ _ _ vp _ hkpB Hp_7.out).mono ?_
      rintro e w8 ⟨rfl, hb⟩
      have HB8 := Lib.hid (bl_trans HB7.out hb)
      have Hp_8 := Lib.hid (Hp_7.out.later hb)
      have Hv_8 := Lib.hid (Hv_7.out.later hb)
      clear hb HB7 Hp_7 Hv_7
      rw [Hpv.out]
      go_wp2
      go_ret
      exact ⟨rfl, HB8.out⟩
  | true =>
    obtain ⟨e1, e2⟩ := ext_twelve hex
    subst e1
    subst e2
    have hpv : pvB 12 vp = true := by unfold extB at hex; rw [Bool.and_eq_true] at hex; exact hex.1
    have Hex := Lib.hid hex
    have Hpv := Lib.hid hpv
    clear hex hpv
    go_wp2_with fail
    refine (specExt_any _ _ _ _ _ _ vp v _ hkpB hkvB Hp_2.out Hv_2.out).mono ?_
    rintro e w3 ⟨rfl, hb⟩
    have HB3 := Lib.hid (bl_trans HB2.out hb)
    have Hp_3 := Lib.hid (Hp_2.out.later hb)
    have Hv_3 := Lib.hid (Hv_2.out.later hb)
    clear hb HB2 Hp_2 Hv_2
    rw [Hex.out]
    go_wp2_with fail
    refine (implPart_b _ _ _ vp _ hkpB Hp_3.out).mono ?_
    rintro e w4 ⟨rfl, hb⟩
    have HB4 := Lib.hid (bl_trans HB3.out hb)
    have Hp_4 := Lib.hid (Hp_3.out.later hb)
    have Hv_4 := Lib.hid (Hv_3.out.later hb)
    clear hb HB3 Hp_3 Hv_3
    rw [Hpv.out]
    go_wp2_with fail
    refine (specPart_b _ _ _ vp _ hkpB Hp_4.out).mono ?_
    rintro e w5 ⟨rfl, hb⟩
    have HB5 := Lib.hid (bl_trans HB4.out hb)
    have Hp_5 := Lib.hid (Hp_4.out.later hb)
    have Hv_5 := Lib.hid (Hv_4.out.later hb)
    clear hb HB4 Hp_4 Hv_4
    rw [Hpv.out]
    obtain ⟨bp, offp, rfl, hbp, hcp⟩ := Hp_5.out (by omega)
    have HcA := Lib.hid (fun j (hj : j < 12) => kc (bl_alloc (Below.refl w5.heap.size w5) (.cells #[] 3)) (hcp j hj))
    obtain ⟨bv, offv, rfl, hbv, hcv⟩ := Hv_5.out (by omega)
    obtain ⟨j, hmod, hj⟩ : ∃ j : Nat, Int.tmod (n1 : Int) 12 = (j : Int) ∧ j < 12 := ⟨n1 % 12, by rw [Int.tmod_eq_emod_of_nonneg (by omega)]; simp, Nat.mod_lt _ (by omega)⟩
    have hj0 : (0 : Int) ≤ (j : Int) := by omega
    have hj1 : (j : Int) < 12 := by omega
    have HEZ := Lib.hid (ext_zero (k := j) Hex.out)
    have Hcv := Lib.hid (hcv j hj)
    clear hcp hcv Hex Hpv
    go_wp2_with (at_builtin; refine wpList_plain (by rfl) fun K' hK' => ?_; refine wp_app12 _ _ (by rfl) (by rfl) (B0 := w5.heap.size) (by rfl) (by rfl) (rowI_lit w5) (by intro j hj; cases hj; exact Nat.le_refl _) HcA.out (by simp) ?_; intro g cap1 w7 hg1 hov hb7; have hbx := Lib.hid ((bl_alloc (Below.refl w5.heap.size w5) (.cells #[] 3)).trans hb7); obtain ⟨u0, hu0⟩ := hov.cell hj; have hf0 := hov.frozen j; have Hov := Lib.hid hov; have Hg1 := Lib.hid hg1; clear hb7 hov hg1; refine hK' _ _ ?_; clear hK' K')
    refine (implExt_any _ _ _ _ _ _ _ v _ hkpB hkvB (Hov.out.upd hj 0).rdAt (Hv_5.out.later (hbx.out.setCell Hg1.out _))).mono ?_
    rintro e w8 ⟨rfl, hb8⟩
    rw [HEZ.out]
    have hbb := bl_trans (hbx.out.setCell Hg1.out _) hb8
    have HB8 := Lib.hid (bl_trans HB5.out hbb)
    have Hv8 := Lib.hid (Hv_5.out.later hbb)
    have Hov8 := Lib.hid ((Hov.out.upd hj 0).below hb8)
    have hvj := kc hbb Hcv.out
    obtain ⟨u1, hu1⟩ := Hov8.out.cell hj
    have hf1 := Hov8.out.frozen j
    have hg5 : w5.heap.size ≤ g := Hg1.out
    have hgn1 : ¬ g = bv := by omega
    have hgn2 : ¬ bv = g := by omega
    have hbg : bv < g := by omega
    have hwg : w.heap.size ≤ g := Nat.le_trans HB5.out.size hg5
    clear hb8 hbb hbx Hov HcA hu0 hf0 Hcv HEZ HB5 Hp_5 Hv_5 Hg1
    cases hvv : v j with
    | false =>
      rw [hvv] at hvj
      have HW := Lib.hid (ext_wrong (v := fun i => if i = j then 0 else vp i) (u := v) (k := j) (z := 1) hj (by rw [hvv]; rfl))
      clear hvv
      go_wp2_with fail
      refine (implExt_any _ _ _ _ _ _ _ v _ hkpB hkvB (Hov8.out.upd hj 1).rdAt (rdb_far Hv8.out hbg (.int .i64 1))).mono ?_
      rintro e w9 ⟨rfl, hb9⟩
      rw [HW.out]
      have HB9 := Lib.hid (bl_trans (HB8.out.setCell (p := ⟨g, j, none⟩) hwg (.int .i64 1)) hb9)
      clear hb9
      go_wp2
      go_ret
      exact ⟨rfl, HB9.out⟩
    | true =>
      rw [hvv] at hvj
      have HW := Lib.hid (ext_wrong (v := fun i => if i = j then 1 else (if i = j then 0 else vp i)) (u := v) (k := j) (z := -1) hj (by rw [hvv]; rfl))
      clear hvv
      go_wp2_with fail
      refine (implExt_any _ _ _ _ _ _ _ v _ hkpB hkvB ((Hov8.out.upd hj 1).upd hj (-1)).rdAt (rdb_far (rdb_far Hv8.out hbg (.int .i64 1)) hbg (.int .i64 (-1)))).mono ?_
      rintro e w9 ⟨rfl, hb9⟩
      rw [HW.out]
      have HB9 := Lib.hid (bl_trans ((HB8.out.setCell (p := ⟨g, j, none⟩) hwg (.int .i64 1)).setCell (p := ⟨g, j, none⟩) hwg (.int .i64 (-1))) hb9)
      clear hb9
      go_wp2
      go_ret
      exact ⟨rfl, HB9.out⟩

set_option linter.unusedVariables false in
set_option maxRecDepth 100000 in
set_option maxHeartbeats 1600000 in
theorem lawFnExtendsPartial_walk (A0 : Option Addr) (n0 cap0 : Nat) (y0 : Nat → Int) (A1 : Option Addr) (n1 cap1 : Nat) (y1 : Nat → Int) (w : World) (hm0 : n0 ≤ maxLen) (hc0 : n0 ≤ cap0) (hr0 : RdY w w.heap.size A0 n0 y0) (hm1 : n1 ≤ maxLen) (hc1 : n1 ≤ cap1) (hr1 : RdY w w.heap.size A1 n1 y1) :
    Calls Try.prog 5 #[.slice A0 n0 cap0, .slice A1 n1 cap1] w fun e w' => e = .returned (.bool true) ∧ Below w.heap.size w w' := by
  by_cases h0 : n0 ≤ 1048576
  · by_cases h1 : n1 ≤ 1048576
    · exact lawFnExtendsPartial_ok A0 A1 n0 cap0 n1 cap1 y0 y1 w h0 h1 hc0 hr0 hc1 hr1
    · unfold maxLen at hm1
      have hi0 : ¬ (1048576 : Int) < (n0 : Int) := by omega
      have hi1 : (1048576 : Int) < (n1 : Int) := by omega
      go_enter Try.func5, Try.ntmps5
      go_wp2
      go_ret
      exact ⟨rfl, Below.refl _ _⟩
  · unfold maxLen at hm0
    have hi0 : (1048576 : Int) < (n0 : Int) := by omega
    go_enter Try.func5, Try.ntmps5
    go_wp2
    go_ret
    exact ⟨rfl, Below.refl _ _⟩
end Go.Proofs.Ytipblbcedkhmbaa
