/- The walk of the exact law of ProofSame (no claim of its own). Conditions: as each theorem states. -/
import Derived.Test.YtafiikfaeomhpaaStpB
import Derived.Test.YtafiikfaeomhpaaStpC
namespace Go.Proofs.Ytafiikfaeomhpaa
open Go.ChangeShapes Go.WideShapes Go.ChangeAt Go.RowKit

set_option linter.unusedSimpArgs false in
set_option linter.unusedVariables false in
set_option maxRecDepth 100000 in
set_option maxHeartbeats 3200000 in
theorem lawProofSame_walk (A0 : Option Addr) (n0 cap0 : Nat) (c0 : Nat → Stp) (A1 : Option Addr) (n1 cap1 : Nat) (c1 : Nat → Stp) (w : World) (hn0 : n0 ≤ maxLen) (hm0 : ∀ i, i < n0 → (c0 i).c.n ≤ maxLen) (hr0 : RdT w w.heap.size A0 n0 c0) (hn1 : n1 ≤ maxLen) (hm1 : ∀ i, i < n1 → (c1 i).c.n ≤ maxLen) (hr1 : RdT w w.heap.size A1 n1 c1) :
    Calls Try.prog 8 #[.slice A0 n0 cap0, .slice A1 n1 cap1] w fun e w' => e = .returned (.bool true) ∧ Below w.heap.size w w' := by
  have HM0 := Lib.hid hm0
  have HR0 := Lib.hid hr0
  have HM1 := Lib.hid hm1
  have HR1 := Lib.hid hr1
  clear hm0 hr0 hm1 hr1
  by_cases z0 : (1048576 : Int) < (n0 : Int) + tot (cons c0) n0
  · go_enter Try.func8, Try.ntmps8
    go_wp2_with fail
    refine (szStepS_no _ _ _ c0 _ _ (by omega) (by omega) z0 hn0 HM0.out HR0.out).mono ?_
    rintro e w1 ⟨rfl, hb⟩
    have HB := Lib.hid hb
    clear hb
    go_wp2
    go_ret
    exact ⟨rfl, HB.out⟩
  have t0 : (n0 : Int) + tot (cons c0) n0 ≤ 1048576 := by omega
  clear z0
  have k0 : n0 ≤ 1048576 := by omega
  have HN0 := Lib.hid (show ∀ i, i < n0 → (c0 i).c.n ≤ 1048576 from fun i hi => by have := tot_at (cons c0) hi; have e : (cons c0 i).n = (c0 i).c.n := rfl; omega)
  obtain ⟨l1, hl1⟩ : ∃ l1 : Int, (1048576 : Int) - n0 - tot (cons c0) n0 = l1 := ⟨_, rfl⟩
  have y0 : 0 ≤ l1 := by omega
  have y1 : l1 ≤ 1048576 := by omega
  have g1 : ¬ (l1 < 0) := by omega
  go_enter Try.func8, Try.ntmps8
  go_wp2_with fail
  refine (szStepS_ok _ _ _ c0 _ _ (by omega) (by omega) t0 HR0.out).mono ?_
  rintro e w1 ⟨he, hb⟩
  rw [hl1] at he
  subst he
  have HB1 := Lib.hid hb
  clear hb t0 hl1
  go_wp2_with fail
  by_cases z1 : l1 < (n1 : Int) + tot (cons c1) n1
  · refine (szStepS_no _ _ _ c1 _ _ y0 y1 z1 hn1 HM1.out (HR1.out.later HB1.out)).mono ?_
    rintro e w2 ⟨rfl, hb⟩
    have HB2 := Lib.hid (bl_trans HB1.out hb)
    clear hb HB1
    go_wp2
    go_ret
    exact ⟨rfl, HB2.out⟩
  have t1 : (n1 : Int) + tot (cons c1) n1 ≤ l1 := by omega
  clear z1
  have k1 : n1 ≤ 1048576 := by omega
  have HN1 := Lib.hid (show ∀ i, i < n1 → (c1 i).c.n ≤ 1048576 from fun i hi => by have := tot_at (cons c1) hi; have e : (cons c1 i).n = (c1 i).c.n := rfl; omega)
  obtain ⟨l2, hl2⟩ : ∃ l2 : Int, l1 - n1 - tot (cons c1) n1 = l2 := ⟨_, rfl⟩
  have g2 : ¬ (l2 < 0) := by omega
  refine (szStepS_ok _ _ _ c1 _ _ y0 y1 t1 (HR1.out.later HB1.out)).mono ?_
  rintro e w2 ⟨he, hb⟩
  rw [hl2] at he
  subst he
  have HB2 := Lib.hid (bl_trans HB1.out hb)
  clear hb HB1 t1 hl2 y0 y1
  obtain ⟨z, hz⟩ : ∃ z, psB n0 n1 c0 c1 = z := ⟨_, rfl⟩
  have HZ := Lib.hid hz
  clear hz
  go_wp2_with fail
  refine (toStepS_any _ _ _ c0 _ k0 HN0.out (HR0.out.later HB2.out)).mono ?_
  rintro e wa0 ⟨Ga0, rfl, hGa0, ho, hb⟩
  clear hGa0
  have HB3 := Lib.hid (bl_trans HB2.out hb)
  have Oa0_0 := Lib.hid ho
  clear hb HB2 ho
  go_wp2_with fail
  refine (toStepS_any _ _ _ c1 _ k1 HN1.out (HR1.out.later HB3.out)).mono ?_
  rintro e wa1 ⟨Ga1, rfl, hGa1, ho, hb⟩
  clear hGa1
  have HB4 := Lib.hid (bl_trans HB3.out hb)
  have Oa0_1 := Lib.hid (Oa0_0.out.below hb)
  have Oa1_0 := Lib.hid ho
  clear hb HB3 Oa0_0 ho
  go_wp2_with fail
  refine (specPS_any _ _ _ _ _ _ c0 c1 _ k0 k1 HN0.out Oa0_1.out.rdAt Oa1_0.out.rdAt).mono ?_
  rintro e ws ⟨he, hb⟩
  rw [HZ.out] at he
  subst he
  have HB5 := Lib.hid (bl_trans HB4.out hb)
  clear hb HB4 Oa0_1 Oa1_0
  go_wp2_with fail
  refine (toStepS_any _ _ _ c0 _ k0 HN0.out (HR0.out.later HB5.out)).mono ?_
  rintro e wx0 ⟨Gx0, rfl, hGx0, ho, hb⟩
  clear hGx0
  have HB6 := Lib.hid (bl_trans HB5.out hb)
  have Ox0_0 := Lib.hid ho
  clear hb HB5 ho
  go_wp2_with fail
  refine (toStepS_any _ _ _ c1 _ k1 HN1.out (HR1.out.later HB6.out)).mono ?_
  rintro e wx1 ⟨Gx1, rfl, hGx1, ho, hb⟩
  clear hGx1
  have HB7 := Lib.hid (bl_trans HB6.out hb)
  have Ox0_1 := Lib.hid (Ox0_0.out.below hb)
  have Ox1_0 := Lib.hid ho
  clear hb HB6 Ox0_0 ho
  go_wp2_with fail
  refine (implPS_any _ _ _ _ _ _ c0 c1 _ k0 k1 HN0.out Ox0_1.out.rdAt Ox1_0.out.rdAt).mono ?_
  rintro e wi ⟨he, hb⟩
  rw [HZ.out] at he
  subst he
  have HB8 := Lib.hid (bl_trans HB7.out hb)
  have Ox0_2 := Lib.hid (Ox0_1.out.below hb)
  have Ox1_1 := Lib.hid (Ox1_0.out.below hb)
  clear hb HB7 Ox0_1 Ox1_0
  go_wp2_with fail
  refine (toStepS_any _ _ _ c0 _ k0 HN0.out (HR0.out.later HB8.out)).mono ?_
  rintro e wy0 ⟨Gy0, rfl, hGy0, ho, hb⟩
  clear hGy0
  have HB9 := Lib.hid (bl_trans HB8.out hb)
  have Ox0_3 := Lib.hid (Ox0_2.out.below hb)
  have Ox1_2 := Lib.hid (Ox1_1.out.below hb)
  have Oy0_0 := Lib.hid ho
  clear hb HB8 Ox0_2 Ox1_1 ho
  go_wp2_with fail
  refine (eqStepS_refl _ _ _ _ _ c0 _ k0 HN0.out Ox0_3.out.rdAt Oy0_0.out.rdAt).mono ?_
  rintro e wq0 ⟨rfl, hb⟩
  have HB10 := Lib.hid (bl_trans HB9.out hb)
  have Ox1_3 := Lib.hid (Ox1_2.out.below hb)
  clear hb HB9 Ox0_3 Ox1_2 Oy0_0
  go_wp2_with fail
  refine (toStepS_any _ _ _ c1 _ k1 HN1.out (HR1.out.later HB10.out)).mono ?_
  rintro e wy1 ⟨Gy1, rfl, hGy1, ho, hb⟩
  clear hGy1
  have HB11 := Lib.hid (bl_trans HB10.out hb)
  have Ox1_4 := Lib.hid (Ox1_3.out.below hb)
  have Oy1_0 := Lib.hid ho
  clear hb HB10 Ox1_3 ho
  go_wp2_with fail
  refine (eqStepS_refl _ _ _ _ _ c1 _ k1 HN1.out Ox1_4.out.rdAt Oy1_0.out.rdAt).mono ?_
  rintro e wq1 ⟨rfl, hb⟩
  have HB12 := Lib.hid (bl_trans HB11.out hb)
  clear hb HB11 Ox1_4 Oy1_0
  go_wp2
  go_ret
  exact ⟨rfl, HB12.out⟩
end Go.Proofs.Ytafiikfaeomhpaa
