/- The walk of the exact law of PermValid (no claim of its own). Conditions: as each theorem states. -/
import Derived.Test.YtafiikfaeomhpaaPrmD
import Derived.Test.YtafiikfaeomhpaaLwmA
import Derived.Deep.RegionHeld3
import Derived.Deep.QuietTactic
namespace Go.Proofs.Ytafiikfaeomhpaa
open Go.ChangeShapes Go.WideShapes Go.ChangeAt Go.RowKit

set_option linter.unusedSimpArgs false in
set_option linter.unusedVariables false in
set_option maxRecDepth 100000 in
set_option maxHeartbeats 3200000 in
theorem lawPermValid_walk (As0 Ar0 : Option Addr) (sn0 cs0 n0 cr0 : Nat) (s0 : Nat → Int) (q0 : Nat → Rul) (A1 : Option Addr) (m1 cap1 : Nat) (c1 : Nat → Int) (w : World) (hn0 : sn0 ≤ maxLen) (hm0 : n0 ≤ maxLen) (hf0 : ∀ i, i < n0 → (q0 i).fit maxLen) (hs0 : RdI w w.heap.size As0 sn0 s0) (hr0 : RdRs w w.heap.size Ar0 n0 q0) (hm1 : m1 ≤ maxLen) (hr1 : RdI w w.heap.size A1 m1 c1) :
    Calls Try.prog 3 #[.agg #[.slice As0 sn0 cs0, .slice Ar0 n0 cr0], .slice A1 m1 cap1] w fun e w' => e = .returned (.bool true) ∧ Below w.heap.size w w' := by
  have HF0 := Lib.hid hf0
  have HS0 := Lib.hid hs0
  have HR0 := Lib.hid hr0
  have HC1 := Lib.hid hr1
  clear hf0 hs0 hr0 hr1
  by_cases z1 : (1048576 : Int) < (m1 : Int)
  · have HA := Lib.hid (bl_alloc (Below.refl w.heap.size w))
    go_enter Try.func3, Try.ntmps3
    go_wp2
    go_ret
    exact ⟨rfl, HA.out _⟩
  have h1 : m1 ≤ 1048576 := by omega
  by_cases z0 : (1048576 : Int) < ((sn0 + (n0 + totR q0 n0)) : Nat)
  · have E0 := Lib.hid (szO_no z0)
    go_enter Try.func3, Try.ntmps3
    go_wp2_with fail
    have p0 : (w.alloc (.cells #[.slice As0 sn0 cs0, .slice Ar0 n0 cr0] 25)).cell? ⟨w.heap.size, 0, none⟩ = some (.slice As0 sn0 cs0) := by go_simp
    have p1 : (w.alloc (.cells #[.slice As0 sn0 cs0, .slice Ar0 n0 cr0] 25)).cell? ⟨w.heap.size, 1, none⟩ = some (.slice Ar0 n0 cr0) := by go_simp
    have HBa := Lib.hid (bl_alloc (Below.refl w.heap.size w) (.cells #[.slice As0 sn0 cs0, .slice Ar0 n0 cr0] 25))
    generalize (w.alloc (.cells #[.slice As0 sn0 cs0, .slice Ar0 n0 cr0] 25)) = wa at *
    refine (szModel_any _ _ q0 _ _ _ _ _ _ (by omega) (by omega) hn0 hm0 HF0.out (HR0.out.later HBa.out)).mono ?_
    rintro e ws ⟨rfl, hb⟩
    rw [E0.out]
    have HB1 := Lib.hid (bl_trans HBa.out hb)
    replace p0 := kc hb p0
    replace p1 := kc hb p1
    clear hb  HBa
    go_wp2
    go_ret
    exact ⟨rfl, HB1.out⟩
  have E0 := Lib.hid (szO_yes (left := 1048576) (s := (sn0 + (n0 + totR q0 n0))) (by omega))
  have g0 : ¬ ((1048576 : Int) - ((sn0 + (n0 + totR q0 n0)) : Nat) < 0) := by omega
  obtain ⟨left1, hl1⟩ : ∃ left1 : Int, (1048576 : Int) - ((sn0 + (n0 + totR q0 n0)) : Nat) = left1 := ⟨_, rfl⟩
  have u0 : sn0 ≤ 1048576 := by omega
  have v0 : n0 ≤ 1048576 := by omega
  have FT0 := Lib.hid (fit_all (q := q0) (n := n0) (m := 1048576) (by omega))
  rw [hl1] at E0 g0
  have HL1 := Lib.hid (show left1 ≤ 1048576 by omega)
  clear hl1 z0 z1
  go_enter Try.func3, Try.ntmps3
  go_wp2_with fail
  have p0 : (w.alloc (.cells #[.slice As0 sn0 cs0, .slice Ar0 n0 cr0] 25)).cell? ⟨w.heap.size, 0, none⟩ = some (.slice As0 sn0 cs0) := by go_simp
  have p1 : (w.alloc (.cells #[.slice As0 sn0 cs0, .slice Ar0 n0 cr0] 25)).cell? ⟨w.heap.size, 1, none⟩ = some (.slice Ar0 n0 cr0) := by go_simp
  have HBa := Lib.hid (bl_alloc (Below.refl w.heap.size w) (.cells #[.slice As0 sn0 cs0, .slice Ar0 n0 cr0] 25))
  generalize (w.alloc (.cells #[.slice As0 sn0 cs0, .slice Ar0 n0 cr0] 25)) = wa at *
  refine (szModel_any _ _ q0 _ _ _ _ _ _ (by omega) (by omega) hn0 hm0 HF0.out (HR0.out.later HBa.out)).mono ?_
  rintro e ws ⟨rfl, hb⟩
  rw [E0.out]
  have HB1 := Lib.hid (bl_trans HBa.out hb)
  replace p0 := kc hb p0
  replace p1 := kc hb p1
  clear hb  HBa
  go_wp2_with fail
  refine (toModel_any _ _ s0 q0 _ _ _ _ _ u0 v0 FT0.out (HS0.out.later HB1.out) (HR0.out.later HB1.out)).mono ?_
  rintro e wa0 ⟨Gsa0, Gra0, rfl, _, _, hos, hor, hb⟩
  have HB2 := Lib.hid (bl_trans HB1.out hb)
  replace p0 := kc hb p0
  replace p1 := kc hb p1
  have Sa0_0 := Lib.hid hos
  have Ra0_0 := Lib.hid hor
  clear hb hos hor HB1
  go_wp2_with fail
  refine (toIntS_any _ _ _ c1 _ h1 (HC1.out.later HB2.out)).mono ?_
  rintro e wa1 ⟨Gsa1, rfl, -, hos, hb⟩
  have HB3 := Lib.hid (bl_trans HB2.out hb)
  replace p0 := kc hb p0
  replace p1 := kc hb p1
  have Sa0_1 := Lib.hid (Sa0_0.out.below hb Sa0_0.out.lt)
  have Ra0_1 := Lib.hid (Ra0_0.out.below hb)
  have Sa1_0 := Lib.hid hos
  clear hb Sa0_0 Ra0_0 hos HB2
  go_wp2_with fail
  refine (specPV_any ⟨sn0, s0⟩ ⟨m1, c1⟩ n0 q0 _ _ _ _ _ _ _ u0 h1 v0 FT0.out Sa0_1.out.rdAt Ra0_1.out.rdAt Sa1_0.out.rdAt).mono ?_
  rintro e wsp ⟨rfl, hb⟩
  have HB4 := Lib.hid (bl_trans HB3.out hb)
  replace p0 := kc hb p0
  replace p1 := kc hb p1
  clear hb Sa0_1 Ra0_1 Sa1_0 HB3
  obtain ⟨X, hX⟩ : ∃ X, X = pmB ⟨sn0, s0⟩ n0 q0 ⟨m1, c1⟩ := ⟨_, rfl⟩
  rw [← hX]
  have HX := Lib.hid hX
  clear hX
  go_wp2_with fail
  refine (toModel_any _ _ s0 q0 _ _ _ _ _ u0 v0 FT0.out (HS0.out.later HB4.out) (HR0.out.later HB4.out)).mono ?_
  rintro e wx0 ⟨Gsx0, Grx0, rfl, _, _, hos, hor, hb⟩
  have HB5 := Lib.hid (bl_trans HB4.out hb)
  replace p0 := kc hb p0
  replace p1 := kc hb p1
  have Sx0_0 := Lib.hid hos
  have Rx0_0 := Lib.hid hor
  clear hb hos hor HB4
  have hb := bl_alloc (Below.refl wx0.heap.size wx0) (.cells #[.slice (some ⟨Gsx0, 0, none⟩) sn0 sn0, .slice (some ⟨Grx0, 0, none⟩) n0 n0] 30)
  have p0' := kc hb p0
  have p1' := kc hb p1
  clear hb
  go_wp2_with fail
  clear p0' p1'
  have hb := bl_alloc (Below.refl wx0.heap.size wx0) (.cells #[.slice (some ⟨Gsx0, 0, none⟩) sn0 sn0, .slice (some ⟨Grx0, 0, none⟩) n0 n0] 30)
  have x0 : (wx0.alloc (.cells #[.slice (some ⟨Gsx0, 0, none⟩) sn0 sn0, .slice (some ⟨Grx0, 0, none⟩) n0 n0] 30)).cell? ⟨wx0.heap.size, 0, none⟩ = some (.slice (some ⟨Gsx0, 0, none⟩) sn0 sn0) := by go_simp
  have x1 : (wx0.alloc (.cells #[.slice (some ⟨Gsx0, 0, none⟩) sn0 sn0, .slice (some ⟨Grx0, 0, none⟩) n0 n0] 30)).cell? ⟨wx0.heap.size, 1, none⟩ = some (.slice (some ⟨Grx0, 0, none⟩) n0 n0) := by go_simp
  have HB6 := Lib.hid (bl_trans HB5.out hb)
  replace p0 := kc hb p0
  replace p1 := kc hb p1
  have Sx0_1 := Lib.hid (Sx0_0.out.below hb Sx0_0.out.lt)
  have Rx0_1 := Lib.hid (Rx0_0.out.below hb)
  clear hb Sx0_0 Rx0_0 HB5
  obtain ⟨XB, hXB⟩ : ∃ XB, wx0.heap.size = XB := ⟨_, rfl⟩
  rw [hXB] at x0 x1 ⊢
  clear hXB
  generalize (wx0.alloc (.cells #[.slice (some ⟨Gsx0, 0, none⟩) sn0 sn0, .slice (some ⟨Grx0, 0, none⟩) n0 n0] 30)) = wz at *
  refine (toIntS_any _ _ _ c1 _ h1 (HC1.out.later HB6.out)).mono ?_
  rintro e wx1 ⟨Gsx1, rfl, -, hos, hb⟩
  have HB7 := Lib.hid (bl_trans HB6.out hb)
  replace p0 := kc hb p0
  replace p1 := kc hb p1
  replace x0 := kc hb x0
  replace x1 := kc hb x1
  have Sx0_2 := Lib.hid (Sx0_1.out.below hb Sx0_1.out.lt)
  have Rx0_2 := Lib.hid (Rx0_1.out.below hb)
  have Sx1_0 := Lib.hid hos
  clear hb Sx0_1 Rx0_1 hos HB6
  go_wp2_with fail
  refine (implPV_any ⟨sn0, s0⟩ ⟨m1, c1⟩ n0 q0 _ _ _ _ _ _ _ u0 h1 v0 FT0.out Sx0_2.out.rdAt Rx0_2.out.rdAt Sx1_0.out.rdAt).mono ?_
  rintro e wi ⟨rfl, hb⟩
  have HB8 := Lib.hid (bl_trans HB7.out hb)
  replace p0 := kc hb p0
  replace p1 := kc hb p1
  replace x0 := kc hb x0
  replace x1 := kc hb x1
  have Sx0_3 := Lib.hid (Sx0_2.out.below hb Sx0_2.out.lt)
  have Rx0_3 := Lib.hid (Rx0_2.out.below hb)
  have Sx1_1 := Lib.hid (Sx1_0.out.below hb Sx1_0.out.lt)
  clear hb Sx0_2 Rx0_2 Sx1_0 HB7
  rw [← HX.out]
  clear HX
  go_wp2_with fail
  obtain ⟨Y0, hY0⟩ : ∃ Y, w.heap.size = Y := ⟨_, rfl⟩
  rw [hY0] at p0 p1 ⊢
  go_region_held3 (fun w' => w'.cell? ⟨Y0, 0, none⟩ = some (.slice As0 sn0 cs0) ∧ w'.cell? ⟨Y0, 1, none⟩ = some (.slice Ar0 n0 cr0) ∧ w'.cell? ⟨XB, 0, none⟩ = some (.slice (some ⟨Gsx0, 0, none⟩) sn0 sn0) ∧ w'.cell? ⟨XB, 1, none⟩ = some (.slice (some ⟨Grx0, 0, none⟩) n0 n0)) (go_keep)
    (first
      | (go_at_call 11; refine (toModel_any _ _ s0 q0 _ _ _ _ _ u0 v0 FT0.out (HS0.out.later HB8.out.drew) (HR0.out.later HB8.out.drew)).mono ?_; rintro e wy0 ⟨Hs0, Hr0, rfl, _, _, hos, hor, hb⟩; have HBy0 := Lib.hid (bl_trans HB8.out.drew hb); have YS := Lib.hid hos; have YR := Lib.hid hor; clear hos hor; have Sx0_z := Lib.hid (Sx0_3.out.below (w := wi.drew) hb Sx0_3.out.lt); have Rx0_z := Lib.hid (Rx0_3.out.below (w := wi.drew) hb); have Sx1_z := Lib.hid (Sx1_1.out.below (w := wi.drew) hb Sx1_1.out.lt); replace p0 := kc hb p0; replace p1 := kc hb p1; replace x0 := kc hb x0; replace x1 := kc hb x1; clear hb)
      | (go_at_call 14; refine (eqModel_refl _ _ s0 q0 _ _ _ _ _ _ _ _ _ u0 v0 FT0.out Sx0_z.out.rdAt Rx0_z.out.rdAt YS.out.rdAt YR.out.rdAt).mono ?_; rintro e we0 ⟨rfl, hb⟩; have HBe0 := Lib.hid (bl_trans HBy0.out hb); have Sx0_y := Lib.hid (Sx0_z.out.below hb Sx0_z.out.lt); have Rx0_y := Lib.hid (Rx0_z.out.below hb); have Sx1_y := Lib.hid (Sx1_z.out.below hb Sx1_z.out.lt); replace p0 := kc hb p0; replace p1 := kc hb p1; replace x0 := kc hb x0; replace x1 := kc hb x1; clear hb))
  clear YS YR HBy0 Sx0_3 Sx0_z Rx0_3 Rx0_z Sx1_1 Sx1_z HB8
  have Sx0_4 := Sx0_y
  have Rx0_4 := Rx0_y
  have Sx1_2 := Sx1_y
  clear Sx0_y Rx0_y Sx1_y
  go_wp2_with fail
  refine (toIntS_any _ _ _ c1 _ h1 (HC1.out.later HBe0.out)).mono ?_
  rintro e wy1 ⟨Gsy1, rfl, -, hos, hb⟩
  have HB9 := Lib.hid (bl_trans HBe0.out hb)
  replace p0 := kc hb p0
  replace p1 := kc hb p1
  replace x0 := kc hb x0
  replace x1 := kc hb x1
  have Sx0_5 := Lib.hid (Sx0_4.out.below hb Sx0_4.out.lt)
  have Rx0_5 := Lib.hid (Rx0_4.out.below hb)
  have Sx1_3 := Lib.hid (Sx1_2.out.below hb Sx1_2.out.lt)
  have Sy1_0 := Lib.hid hos
  clear hb Sx0_4 Rx0_4 Sx1_2 hos HBe0
  go_wp2_with fail
  refine (eqIntS_refl _ _ _ _ _ c1 _ h1 Sx1_3.out.rdAt Sy1_0.out.rdAt).mono ?_
  rintro e wq1 ⟨rfl, hb⟩
  have HB10 := Lib.hid (bl_trans HB9.out hb)
  replace p0 := kc hb p0
  replace p1 := kc hb p1
  replace x0 := kc hb x0
  replace x1 := kc hb x1
  have Sx0_6 := Lib.hid (Sx0_5.out.below hb Sx0_5.out.lt)
  have Rx0_6 := Lib.hid (Rx0_5.out.below hb)
  clear hb Sx0_5 Rx0_5 Sx1_3 Sy1_0 HB9
  go_wp2
  go_ret
  exact ⟨rfl, by first | exact HB10.out | (rw [← hY0]; exact HB10.out)⟩
end Go.Proofs.Ytafiikfaeomhpaa
