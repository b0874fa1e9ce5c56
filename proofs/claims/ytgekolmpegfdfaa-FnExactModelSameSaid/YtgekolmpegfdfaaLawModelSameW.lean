/- The walk of the law ModelSame (no claim of its own). Conditions: as each theorem states. -/
import Derived.Test.YtgekolmpegfdfaaMsaC
import Derived.Deep.RegionHeld3
import Derived.Deep.QuietTactic
namespace Go.Proofs.Ytgekolmpegfdfaa
open Go.ChangeShapes Go.WideShapes Go.ChangeAt Go.RowKit

theorem fit_all {n : Nat} {q : Nat → Rul} {m : Nat} (h : totR q n ≤ m) : ∀ i, i < n → (q i).fit m := fun i hi => Rul.fit_of (by have := totR_at q hi; omega)

set_option linter.unusedSimpArgs false in
set_option linter.unusedVariables false in
set_option maxRecDepth 100000 in
set_option maxHeartbeats 1600000 in
theorem lawModelSame_walk (As0 Ar0 : Option Addr) (sn0 cs0 n0 cr0 : Nat) (s0 : Nat → Int) (q0 : Nat → Rul) (As1 Ar1 : Option Addr) (sn1 cs1 n1 cr1 : Nat) (s1 : Nat → Int) (q1 : Nat → Rul) (w : World) (hn0 : sn0 ≤ maxLen) (hm0 : n0 ≤ maxLen) (hf0 : ∀ i, i < n0 → (q0 i).fit maxLen) (hs0 : RdI w w.heap.size As0 sn0 s0) (hr0 : RdRs w w.heap.size Ar0 n0 q0) (hn1 : sn1 ≤ maxLen) (hm1 : n1 ≤ maxLen) (hf1 : ∀ i, i < n1 → (q1 i).fit maxLen) (hs1 : RdI w w.heap.size As1 sn1 s1) (hr1 : RdRs w w.heap.size Ar1 n1 q1) :
    Calls Try.prog 4 #[.agg #[.slice As0 sn0 cs0, .slice Ar0 n0 cr0], .agg #[.slice As1 sn1 cs1, .slice Ar1 n1 cr1]] w fun e w' => e = .returned (.bool true) ∧ Below w.heap.size w w' := by
  have HF0 := Lib.hid hf0
  have HS0 := Lib.hid hs0
  have HR0 := Lib.hid hr0
  have HF1 := Lib.hid hf1
  have HS1 := Lib.hid hs1
  have HR1 := Lib.hid hr1
  clear hf0 hs0 hr0 hf1 hs1 hr1
  by_cases z0 : (1048576 : Int) < ((sn0 + (n0 + totR q0 n0)) : Nat)
  · have E0 := Lib.hid (szO_no z0)
    go_enter Try.func4, Try.ntmps4
    go_wp2_with fail
    have p00 : ((w.alloc (.cells #[.slice As0 sn0 cs0, .slice Ar0 n0 cr0] 25)).alloc (.cells #[.slice As1 sn1 cs1, .slice Ar1 n1 cr1] 25)).cell? ⟨w.heap.size, 0, none⟩ = some (.slice As0 sn0 cs0) := by go_simp
    have p01 : ((w.alloc (.cells #[.slice As0 sn0 cs0, .slice Ar0 n0 cr0] 25)).alloc (.cells #[.slice As1 sn1 cs1, .slice Ar1 n1 cr1] 25)).cell? ⟨w.heap.size, 1, none⟩ = some (.slice Ar0 n0 cr0) := by go_simp
    have p10 : ((w.alloc (.cells #[.slice As0 sn0 cs0, .slice Ar0 n0 cr0] 25)).alloc (.cells #[.slice As1 sn1 cs1, .slice Ar1 n1 cr1] 25)).cell? ⟨w.heap.size + 1, 0, none⟩ = some (.slice As1 sn1 cs1) := by go_simp
    have p11 : ((w.alloc (.cells #[.slice As0 sn0 cs0, .slice Ar0 n0 cr0] 25)).alloc (.cells #[.slice As1 sn1 cs1, .slice Ar1 n1 cr1] 25)).cell? ⟨w.heap.size + 1, 1, none⟩ = some (.slice Ar1 n1 cr1) := by go_simp
    have HBa := Lib.hid (bl_alloc (bl_alloc (Below.refl w.heap.size w) (.cells #[.slice As0 sn0 cs0, .slice Ar0 n0 cr0] 25)) (.cells #[.slice As1 sn1 cs1, .slice Ar1 n1 cr1] 25))
    generalize ((w.alloc (.cells #[.slice As0 sn0 cs0, .slice Ar0 n0 cr0] 25)).alloc (.cells #[.slice As1 sn1 cs1, .slice Ar1 n1 cr1] 25)) = wa at *
    refine (szModel_any _ _ q0 _ _ _ _ _ _ (by omega) (by omega) hn0 hm0 HF0.out (HR0.out.later HBa.out)).mono ?_
    rintro e w0s ⟨rfl, hb⟩
    rw [E0.out]
    have HB1 := Lib.hid (bl_trans HBa.out hb)
    replace p00 := kc hb p00
    replace p01 := kc hb p01
    replace p10 := kc hb p10
    replace p11 := kc hb p11
    clear hb  HBa
    go_wp2
    go_ret
    exact ⟨rfl, HB1.out⟩
  have E0 := Lib.hid (szO_yes (left := 1048576) (s := (sn0 + (n0 + totR q0 n0))) (by omega))
  have g0 : ¬ ((1048576 : Int) - ((sn0 + (n0 + totR q0 n0)) : Nat) < 0) := by omega
  obtain ⟨left1, hl1⟩ : ∃ left1 : Int, (1048576 : Int) - ((sn0 + (n0 + totR q0 n0)) : Nat) = left1 := ⟨_, rfl⟩
  have u0 : sn0 ≤ 1048576 := by omega
  have v0 : n0 ≤ 1048576 := by omega
  have FT0 := Lib.hid (fit_all (q := q0) (n := n0) (m := 1048576) (by omega))
  rw [hl1] at E0 g0
  have gl : 0 ≤ left1 := by omega
  have gl2 : left1 ≤ 1048576 := by omega
  clear hl1 z0
  by_cases z1 : left1 < ((sn1 + (n1 + totR q1 n1)) : Nat)
  · have E1 := Lib.hid (szO_no z1)
    go_enter Try.func4, Try.ntmps4
    go_wp2_with fail
    have p00 : ((w.alloc (.cells #[.slice As0 sn0 cs0, .slice Ar0 n0 cr0] 25)).alloc (.cells #[.slice As1 sn1 cs1, .slice Ar1 n1 cr1] 25)).cell? ⟨w.heap.size, 0, none⟩ = some (.slice As0 sn0 cs0) := by go_simp
    have p01 : ((w.alloc (.cells #[.slice As0 sn0 cs0, .slice Ar0 n0 cr0] 25)).alloc (.cells #[.slice As1 sn1 cs1, .slice Ar1 n1 cr1] 25)).cell? ⟨w.heap.size, 1, none⟩ = some (.slice Ar0 n0 cr0) := by go_simp
    have p10 : ((w.alloc (.cells #[.slice As0 sn0 cs0, .slice Ar0 n0 cr0] 25)).alloc (.cells #[.slice As1 sn1 cs1, .slice Ar1 n1 cr1] 25)).cell? ⟨w.heap.size + 1, 0, none⟩ = some (.slice As1 sn1 cs1) := by go_simp
    have p11 : ((w.alloc (.cells #[.slice As0 sn0 cs0, .slice Ar0 n0 cr0] 25)).alloc (.cells #[.slice As1 sn1 cs1, .slice Ar1 n1 cr1] 25)).cell? ⟨w.heap.size + 1, 1, none⟩ = some (.slice Ar1 n1 cr1) := by go_simp
    have HBa := Lib.hid (bl_alloc (bl_alloc (Below.refl w.heap.size w) (.cells #[.slice As0 sn0 cs0, .slice Ar0 n0 cr0] 25)) (.cells #[.slice As1 sn1 cs1, .slice Ar1 n1 cr1] 25))
    generalize ((w.alloc (.cells #[.slice As0 sn0 cs0, .slice Ar0 n0 cr0] 25)).alloc (.cells #[.slice As1 sn1 cs1, .slice Ar1 n1 cr1] 25)) = wa at *
    refine (szModel_any _ _ q0 _ _ _ _ _ _ (by omega) (by omega) hn0 hm0 HF0.out (HR0.out.later HBa.out)).mono ?_
    rintro e w0s ⟨rfl, hb⟩
    rw [E0.out]
    have HB1 := Lib.hid (bl_trans HBa.out hb)
    replace p00 := kc hb p00
    replace p01 := kc hb p01
    replace p10 := kc hb p10
    replace p11 := kc hb p11
    clear hb  HBa
    go_wp2_with fail
    refine (szModel_any _ _ q1 _ _ _ _ _ _ (by omega) (by omega) hn1 hm1 HF1.out (HR1.out.later HB1.out)).mono ?_
    rintro e w1s ⟨rfl, hb⟩
    rw [E1.out]
    have HB2 := Lib.hid (bl_trans HB1.out hb)
    replace p00 := kc hb p00
    replace p01 := kc hb p01
    replace p10 := kc hb p10
    replace p11 := kc hb p11
    clear hb  HB1
    go_wp2
    go_ret
    exact ⟨rfl, HB2.out⟩
  have E1 := Lib.hid (szO_yes (left := left1) (s := (sn1 + (n1 + totR q1 n1))) (by omega))
  have g1 : ¬ (left1 - ((sn1 + (n1 + totR q1 n1)) : Nat) < 0) := by omega
  have u1 : sn1 ≤ 1048576 := by omega
  have v1 : n1 ≤ 1048576 := by omega
  have FT1 := Lib.hid (fit_all (q := q1) (n := n1) (m := 1048576) (by omega))
  obtain ⟨left2, hl2⟩ : ∃ left2 : Int, left1 - ((sn1 + (n1 + totR q1 n1)) : Nat) = left2 := ⟨_, rfl⟩
  rw [hl2] at E1 g1
  clear hl2 z1
  go_enter Try.func4, Try.ntmps4
  go_wp2_with fail
  have p00 : ((w.alloc (.cells #[.slice As0 sn0 cs0, .slice Ar0 n0 cr0] 25)).alloc (.cells #[.slice As1 sn1 cs1, .slice Ar1 n1 cr1] 25)).cell? ⟨w.heap.size, 0, none⟩ = some (.slice As0 sn0 cs0) := by go_simp
  have p01 : ((w.alloc (.cells #[.slice As0 sn0 cs0, .slice Ar0 n0 cr0] 25)).alloc (.cells #[.slice As1 sn1 cs1, .slice Ar1 n1 cr1] 25)).cell? ⟨w.heap.size, 1, none⟩ = some (.slice Ar0 n0 cr0) := by go_simp
  have p10 : ((w.alloc (.cells #[.slice As0 sn0 cs0, .slice Ar0 n0 cr0] 25)).alloc (.cells #[.slice As1 sn1 cs1, .slice Ar1 n1 cr1] 25)).cell? ⟨w.heap.size + 1, 0, none⟩ = some (.slice As1 sn1 cs1) := by go_simp
  have p11 : ((w.alloc (.cells #[.slice As0 sn0 cs0, .slice Ar0 n0 cr0] 25)).alloc (.cells #[.slice As1 sn1 cs1, .slice Ar1 n1 cr1] 25)).cell? ⟨w.heap.size + 1, 1, none⟩ = some (.slice Ar1 n1 cr1) := by go_simp
  have HBa := Lib.hid (bl_alloc (bl_alloc (Below.refl w.heap.size w) (.cells #[.slice As0 sn0 cs0, .slice Ar0 n0 cr0] 25)) (.cells #[.slice As1 sn1 cs1, .slice Ar1 n1 cr1] 25))
  generalize ((w.alloc (.cells #[.slice As0 sn0 cs0, .slice Ar0 n0 cr0] 25)).alloc (.cells #[.slice As1 sn1 cs1, .slice Ar1 n1 cr1] 25)) = wa at *
  refine (szModel_any _ _ q0 _ _ _ _ _ _ (by omega) (by omega) hn0 hm0 HF0.out (HR0.out.later HBa.out)).mono ?_
  rintro e w0s ⟨rfl, hb⟩
  rw [E0.out]
  have HB1 := Lib.hid (bl_trans HBa.out hb)
  replace p00 := kc hb p00
  replace p01 := kc hb p01
  replace p10 := kc hb p10
  replace p11 := kc hb p11
  clear hb  HBa
  go_wp2_with fail
  refine (szModel_any _ _ q1 _ _ _ _ _ _ (by omega) (by omega) hn1 hm1 HF1.out (HR1.out.later HB1.out)).mono ?_
  rintro e w1s ⟨rfl, hb⟩
  rw [E1.out]
  have HB2 := Lib.hid (bl_trans HB1.out hb)
  replace p00 := kc hb p00
  replace p01 := kc hb p01
  replace p10 := kc hb p10
  replace p11 := kc hb p11
  clear hb  HB1
  go_wp2_with fail
  obtain ⟨Y0, hY0⟩ : ∃ Y, w.heap.size = Y := ⟨_, rfl⟩
  rw [hY0] at p00 p01 p10 p11 ⊢
  go_region_held3 (fun w' => w'.cell? ⟨Y0, 0, none⟩ = some (.slice As0 sn0 cs0) ∧ w'.cell? ⟨Y0, 1, none⟩ = some (.slice Ar0 n0 cr0) ∧ w'.cell? ⟨Y0 + 1, 0, none⟩ = some (.slice As1 sn1 cs1) ∧ w'.cell? ⟨Y0 + 1, 1, none⟩ = some (.slice Ar1 n1 cr1)) (go_keep)
    (first
      | (go_at_call 12; have hq1 := HBs0.out; refine (toModel_any _ _ s1 q1 _ _ _ _ _ u1 v1 FT1.out (HS1.out.later HBs0.out) (HR1.out.later HBs0.out)).mono ?_; rintro e ws1 ⟨Gs1, Gr1, rfl, _, _, hos1, hor1, hb⟩; have HBs1 := Lib.hid (bl_trans HBs0.out hb); have OS1 := Lib.hid hos1; have OR1 := Lib.hid hor1; have OS0' := Lib.hid (OS0.out.below hb OS0.out.lt); have OR0' := Lib.hid (OR0.out.below hb); clear hos1 hor1 hq1; replace p00 := kc hb p00; replace p01 := kc hb p01; replace p10 := kc hb p10; replace p11 := kc hb p11; clear hb)
      | (go_at_call 12; refine (toModel_any _ _ s0 q0 _ _ _ _ _ u0 v0 FT0.out (HS0.out.later HB2.out.drew) (HR0.out.later HB2.out.drew)).mono ?_; rintro e ws0 ⟨Gs0, Gr0, rfl, _, _, hos0, hor0, hb⟩; have HBs0 := Lib.hid (bl_trans HB2.out.drew hb); have OS0 := Lib.hid hos0; have OR0 := Lib.hid hor0; clear hos0 hor0; replace p00 := kc hb p00; replace p01 := kc hb p01; replace p10 := kc hb p10; replace p11 := kc hb p11; clear hb)
      | (go_at_call 15; refine (specModelSame_any ⟨sn0, s0⟩ ⟨sn1, s1⟩ n0 n1 q0 q1 _ _ _ _ _ _ _ _ _ u0 u1 v0 v1 FT0.out FT1.out OS0'.out.rdAt OR0'.out.rdAt OS1.out.rdAt OR1.out.rdAt).mono ?_; rintro e ws ⟨rfl, hb⟩; have HBs := Lib.hid (bl_trans HBs1.out hb); replace p00 := kc hb p00; replace p01 := kc hb p01; replace p10 := kc hb p10; replace p11 := kc hb p11; clear hb))
  clear OS0 OR0 OS0' OR0' OS1 OR1 HBs0 HBs1
  go_wp2_with fail
  refine (toModel_any _ _ s0 q0 _ _ _ _ _ u0 v0 FT0.out (HS0.out.later HBs.out) (HR0.out.later HBs.out)).mono ?_
  rintro e wx0 ⟨Gs0, Gr0, rfl, _, _, hos0, hor0, hb⟩
  have HB3 := Lib.hid (bl_trans HBs.out hb)
  replace p00 := kc hb p00
  replace p01 := kc hb p01
  replace p10 := kc hb p10
  replace p11 := kc hb p11
  have XS0_0 := Lib.hid hos0
  have XR0_0 := Lib.hid hor0
  clear hb  HBs
  clear hos0 hor0
  have hb := bl_alloc (Below.refl wx0.heap.size wx0) (.cells #[.slice (some ⟨Gs0, 0, none⟩) sn0 sn0, .slice (some ⟨Gr0, 0, none⟩) n0 n0] 30)
  have p00' := kc hb p00
  have p01' := kc hb p01
  have p10' := kc hb p10
  have p11' := kc hb p11
  clear hb
  go_wp2_with fail
  clear p00' p01' p10' p11'
  have x00 : (wx0.alloc (.cells #[.slice (some ⟨Gs0, 0, none⟩) sn0 sn0, .slice (some ⟨Gr0, 0, none⟩) n0 n0] 30)).cell? ⟨wx0.heap.size, 0, none⟩ = some (.slice (some ⟨Gs0, 0, none⟩) sn0 sn0) := by go_simp
  have x01 : (wx0.alloc (.cells #[.slice (some ⟨Gs0, 0, none⟩) sn0 sn0, .slice (some ⟨Gr0, 0, none⟩) n0 n0] 30)).cell? ⟨wx0.heap.size, 1, none⟩ = some (.slice (some ⟨Gr0, 0, none⟩) n0 n0) := by go_simp
  have hb := bl_alloc (Below.refl wx0.heap.size wx0) (.cells #[.slice (some ⟨Gs0, 0, none⟩) sn0 sn0, .slice (some ⟨Gr0, 0, none⟩) n0 n0] 30)
  have HB4 := Lib.hid (bl_trans HB3.out hb)
  replace p00 := kc hb p00
  replace p01 := kc hb p01
  replace p10 := kc hb p10
  replace p11 := kc hb p11
  have XS0_1 := Lib.hid (XS0_0.out.below hb XS0_0.out.lt)
  have XR0_1 := Lib.hid (XR0_0.out.below hb)
  clear hb XS0_0 XR0_0 HB3
  obtain ⟨X0, hX0⟩ : ∃ X, wx0.heap.size = X := ⟨_, rfl⟩
  rw [hX0] at x00 x01 ⊢
  clear hX0
  generalize (wx0.alloc (.cells #[.slice (some ⟨Gs0, 0, none⟩) sn0 sn0, .slice (some ⟨Gr0, 0, none⟩) n0 n0] 30)) = wz0 at *
  refine (toModel_any _ _ s1 q1 _ _ _ _ _ u1 v1 FT1.out (HS1.out.later HB4.out) (HR1.out.later HB4.out)).mono ?_
  rintro e wx1 ⟨Gs1, Gr1, rfl, _, _, hos1, hor1, hb⟩
  have HB5 := Lib.hid (bl_trans HB4.out hb)
  replace p00 := kc hb p00
  replace p01 := kc hb p01
  replace p10 := kc hb p10
  replace p11 := kc hb p11
  replace x00 := kc hb x00
  replace x01 := kc hb x01
  have XS0_2 := Lib.hid (XS0_1.out.below hb XS0_1.out.lt)
  have XR0_2 := Lib.hid (XR0_1.out.below hb)
  have XS1_0 := Lib.hid hos1
  have XR1_0 := Lib.hid hor1
  clear hb XS0_1 XR0_1 HB4
  clear hos1 hor1
  have hb := bl_alloc (Below.refl wx1.heap.size wx1) (.cells #[.slice (some ⟨Gs1, 0, none⟩) sn1 sn1, .slice (some ⟨Gr1, 0, none⟩) n1 n1] 30)
  have p00' := kc hb p00
  have p01' := kc hb p01
  have p10' := kc hb p10
  have p11' := kc hb p11
  have x00' := kc hb x00
  have x01' := kc hb x01
  clear hb
  go_wp2_with fail
  clear p00' p01' p10' p11' x00' x01'
  have x10 : (wx1.alloc (.cells #[.slice (some ⟨Gs1, 0, none⟩) sn1 sn1, .slice (some ⟨Gr1, 0, none⟩) n1 n1] 30)).cell? ⟨wx1.heap.size, 0, none⟩ = some (.slice (some ⟨Gs1, 0, none⟩) sn1 sn1) := by go_simp
  have x11 : (wx1.alloc (.cells #[.slice (some ⟨Gs1, 0, none⟩) sn1 sn1, .slice (some ⟨Gr1, 0, none⟩) n1 n1] 30)).cell? ⟨wx1.heap.size, 1, none⟩ = some (.slice (some ⟨Gr1, 0, none⟩) n1 n1) := by go_simp
  have hb := bl_alloc (Below.refl wx1.heap.size wx1) (.cells #[.slice (some ⟨Gs1, 0, none⟩) sn1 sn1, .slice (some ⟨Gr1, 0, none⟩) n1 n1] 30)
  have HB6 := Lib.hid (bl_trans HB5.out hb)
  replace p00 := kc hb p00
  replace p01 := kc hb p01
  replace p10 := kc hb p10
  replace p11 := kc hb p11
  replace x00 := kc hb x00
  replace x01 := kc hb x01
  have XS0_3 := Lib.hid (XS0_2.out.below hb XS0_2.out.lt)
  have XR0_3 := Lib.hid (XR0_2.out.below hb)
  have XS1_1 := Lib.hid (XS1_0.out.below hb XS1_0.out.lt)
  have XR1_1 := Lib.hid (XR1_0.out.below hb)
  clear hb XS0_2 XR0_2 XS1_0 XR1_0 HB5
  obtain ⟨X1, hX1⟩ : ∃ X, wx1.heap.size = X := ⟨_, rfl⟩
  rw [hX1] at x10 x11 ⊢
  clear hX1
  generalize (wx1.alloc (.cells #[.slice (some ⟨Gs1, 0, none⟩) sn1 sn1, .slice (some ⟨Gr1, 0, none⟩) n1 n1] 30)) = wz1 at *
  refine (implModelSame_any ⟨sn0, s0⟩ ⟨sn1, s1⟩ n0 n1 q0 q1 _ _ _ _ _ _ _ _ _ u0 u1 v0 v1 FT0.out FT1.out XS0_3.out.rdAt XR0_3.out.rdAt XS1_1.out.rdAt XR1_1.out.rdAt).mono ?_
  rintro e wi ⟨rfl, hb⟩
  have HB7 := Lib.hid (bl_trans HB6.out hb)
  replace p00 := kc hb p00
  replace p01 := kc hb p01
  replace p10 := kc hb p10
  replace p11 := kc hb p11
  replace x00 := kc hb x00
  replace x01 := kc hb x01
  replace x10 := kc hb x10
  replace x11 := kc hb x11
  have XS0_4 := Lib.hid (XS0_3.out.below hb XS0_3.out.lt)
  have XR0_4 := Lib.hid (XR0_3.out.below hb)
  have XS1_2 := Lib.hid (XS1_1.out.below hb XS1_1.out.lt)
  have XR1_2 := Lib.hid (XR1_1.out.below hb)
  clear hb XS0_3 XR0_3 XS1_1 XR1_1 HB6
  generalize mdE ⟨sn0, s0⟩ ⟨sn1, s1⟩ n0 q0 n1 q1 = bb
  go_wp2_with fail
  go_region_held3 (fun w' => w'.cell? ⟨Y0, 0, none⟩ = some (.slice As0 sn0 cs0) ∧ w'.cell? ⟨Y0, 1, none⟩ = some (.slice Ar0 n0 cr0) ∧ w'.cell? ⟨Y0 + 1, 0, none⟩ = some (.slice As1 sn1 cs1) ∧ w'.cell? ⟨Y0 + 1, 1, none⟩ = some (.slice Ar1 n1 cr1) ∧ w'.cell? ⟨X0, 0, none⟩ = some (.slice (some ⟨Gs0, 0, none⟩) sn0 sn0) ∧ w'.cell? ⟨X0, 1, none⟩ = some (.slice (some ⟨Gr0, 0, none⟩) n0 n0) ∧ w'.cell? ⟨X1, 0, none⟩ = some (.slice (some ⟨Gs1, 0, none⟩) sn1 sn1) ∧ w'.cell? ⟨X1, 1, none⟩ = some (.slice (some ⟨Gr1, 0, none⟩) n1 n1)) (go_keep)
    (first
      | (go_at_call 12; refine (toModel_any _ _ s0 q0 _ _ _ _ _ u0 v0 FT0.out (HS0.out.later HB7.out.drew) (HR0.out.later HB7.out.drew)).mono ?_; rintro e wy0 ⟨Hs0, Hr0, rfl, _, _, hos, hor, hb⟩; have HBy0 := Lib.hid (bl_trans HB7.out.drew hb); have YS := Lib.hid hos; have YR := Lib.hid hor; clear hos hor; have XS0_z := Lib.hid (XS0_4.out.below (w := wi.drew) hb XS0_4.out.lt); have XR0_z := Lib.hid (XR0_4.out.below (w := wi.drew) hb); have XS1_z := Lib.hid (XS1_2.out.below (w := wi.drew) hb XS1_2.out.lt); have XR1_z := Lib.hid (XR1_2.out.below (w := wi.drew) hb); replace p00 := kc hb p00; replace p01 := kc hb p01; replace p10 := kc hb p10; replace p11 := kc hb p11; replace x00 := kc hb x00; replace x01 := kc hb x01; replace x10 := kc hb x10; replace x11 := kc hb x11; clear hb)
      | (go_at_call 14; refine (eqModel_refl _ _ s0 q0 _ _ _ _ _ _ _ _ _ u0 v0 FT0.out XS0_z.out.rdAt XR0_z.out.rdAt YS.out.rdAt YR.out.rdAt).mono ?_; rintro e we0 ⟨rfl, hb⟩; have HBe0 := Lib.hid (bl_trans HBy0.out hb); have XS0_y := Lib.hid (XS0_z.out.below hb XS0_z.out.lt); have XR0_y := Lib.hid (XR0_z.out.below hb); have XS1_y := Lib.hid (XS1_z.out.below hb XS1_z.out.lt); have XR1_y := Lib.hid (XR1_z.out.below hb); replace p00 := kc hb p00; replace p01 := kc hb p01; replace p10 := kc hb p10; replace p11 := kc hb p11; replace x00 := kc hb x00; replace x01 := kc hb x01; replace x10 := kc hb x10; replace x11 := kc hb x11; clear hb))
  clear YS YR HBy0 XS0_4 XS0_z XR0_4 XR0_z XS1_2 XS1_z XR1_2 XR1_z HB7
  have XS0_5 := XS0_y
  have XR0_5 := XR0_y
  have XS1_3 := XS1_y
  have XR1_3 := XR1_y
  clear XS0_y XR0_y XS1_y XR1_y
  go_wp2_with fail
  go_region_held3 (fun w' => w'.cell? ⟨Y0, 0, none⟩ = some (.slice As0 sn0 cs0) ∧ w'.cell? ⟨Y0, 1, none⟩ = some (.slice Ar0 n0 cr0) ∧ w'.cell? ⟨Y0 + 1, 0, none⟩ = some (.slice As1 sn1 cs1) ∧ w'.cell? ⟨Y0 + 1, 1, none⟩ = some (.slice Ar1 n1 cr1) ∧ w'.cell? ⟨X0, 0, none⟩ = some (.slice (some ⟨Gs0, 0, none⟩) sn0 sn0) ∧ w'.cell? ⟨X0, 1, none⟩ = some (.slice (some ⟨Gr0, 0, none⟩) n0 n0) ∧ w'.cell? ⟨X1, 0, none⟩ = some (.slice (some ⟨Gs1, 0, none⟩) sn1 sn1) ∧ w'.cell? ⟨X1, 1, none⟩ = some (.slice (some ⟨Gr1, 0, none⟩) n1 n1)) (go_keep)
    (first
      | (go_at_call 12; refine (toModel_any _ _ s1 q1 _ _ _ _ _ u1 v1 FT1.out (HS1.out.later HBe0.out.drew) (HR1.out.later HBe0.out.drew)).mono ?_; rintro e wy1 ⟨Hs1, Hr1, rfl, _, _, hos, hor, hb⟩; have HBy1 := Lib.hid (bl_trans HBe0.out.drew hb); have YS := Lib.hid hos; have YR := Lib.hid hor; clear hos hor; have XS0_z := Lib.hid (XS0_5.out.below (w := we0.drew) hb XS0_5.out.lt); have XR0_z := Lib.hid (XR0_5.out.below (w := we0.drew) hb); have XS1_z := Lib.hid (XS1_3.out.below (w := we0.drew) hb XS1_3.out.lt); have XR1_z := Lib.hid (XR1_3.out.below (w := we0.drew) hb); replace p00 := kc hb p00; replace p01 := kc hb p01; replace p10 := kc hb p10; replace p11 := kc hb p11; replace x00 := kc hb x00; replace x01 := kc hb x01; replace x10 := kc hb x10; replace x11 := kc hb x11; clear hb)
      | (go_at_call 14; refine (eqModel_refl _ _ s1 q1 _ _ _ _ _ _ _ _ _ u1 v1 FT1.out XS1_z.out.rdAt XR1_z.out.rdAt YS.out.rdAt YR.out.rdAt).mono ?_; rintro e we1 ⟨rfl, hb⟩; have HBe1 := Lib.hid (bl_trans HBy1.out hb); have XS0_y := Lib.hid (XS0_z.out.below hb XS0_z.out.lt); have XR0_y := Lib.hid (XR0_z.out.below hb); have XS1_y := Lib.hid (XS1_z.out.below hb XS1_z.out.lt); have XR1_y := Lib.hid (XR1_z.out.below hb); replace p00 := kc hb p00; replace p01 := kc hb p01; replace p10 := kc hb p10; replace p11 := kc hb p11; replace x00 := kc hb x00; replace x01 := kc hb x01; replace x10 := kc hb x10; replace x11 := kc hb x11; clear hb))
  clear YS YR HBy1 XS0_5 XS0_z XR0_5 XR0_z XS1_3 XS1_z XR1_3 XR1_z HBe0
  have XS0_6 := XS0_y
  have XR0_6 := XR0_y
  have XS1_4 := XS1_y
  have XR1_4 := XR1_y
  clear XS0_y XR0_y XS1_y XR1_y
  go_wp2
  go_ret
  exact ⟨rfl, HBe1.out⟩
end Go.Proofs.Ytgekolmpegfdfaa
