/- The walk of the exact law of BoolVar (no claim of its own). Conditions: as each theorem states. -/
import Derived.Test.YtkphagmeoghegaaBviB
import Derived.Test.YtkphagmeoghegaaLwmA
import Derived.Deep.RegionHeld3
import Derived.Deep.QuietTactic
namespace Go.Proofs.Ytkphagmeoghegaa
open Go.ChangeShapes Go.WideShapes Go.ChangeAt Go.RowKit

set_option linter.unusedSimpArgs false in
set_option linter.unusedVariables false in
set_option maxRecDepth 100000 in
set_option maxHeartbeats 3200000 in
theorem lawBoolVar_walk (As0 Ar0 : Option Addr) (sn0 cs0 n0 cr0 : Nat) (s0 : Nat → Int) (q0 : Nat → Rul) (a1 : Int) (a2 : Int) (w : World) (hn0 : sn0 ≤ maxLen) (hm0 : n0 ≤ maxLen) (hf0 : ∀ i, i < n0 → (q0 i).fit maxLen) (hs0 : RdI w w.heap.size As0 sn0 s0) (hr0 : RdRs w w.heap.size Ar0 n0 q0) (w1 : (Lit.int .i64 a1).wf = true) (w2 : (Lit.int .i64 a2).wf = true) :
    Calls Try.prog 7 #[.agg #[.slice As0 sn0 cs0, .slice Ar0 n0 cr0], .int .i64 a1, .int .i64 a2] w fun e w' => e = .returned (.bool true) ∧ Below w.heap.size w w' := by
  have HF0 := Lib.hid hf0
  have HS0 := Lib.hid hs0
  have HR0 := Lib.hid hr0
  clear hf0 hs0 hr0
  by_cases z0 : (1048576 : Int) < ((sn0 + (n0 + totR q0 n0)) : Nat)
  · have E0 := Lib.hid (szO_no z0)
    go_enter Try.func7, Try.ntmps7
    go_wp2_with fail
    have p0 : (w.alloc (.cells #[.slice As0 sn0 cs0, .slice Ar0 n0 cr0] 25)).cell? ⟨w.heap.size, 0, none⟩ = some (.slice As0 sn0 cs0) := by go_simp
    have p1 : (w.alloc (.cells #[.slice As0 sn0 cs0, .slice Ar0 n0 cr0] 25)).cell? ⟨w.heap.size, 1, none⟩ = some (.slice Ar0 n0 cr0) := by go_simp
    have HBa := Lib.hid (bl_alloc (Below.refl w.heap.size w) (.cells #[.slice As0 sn0 cs0, .slice Ar0 n0 cr0] 25))
    generalize (w.alloc (.cells #[.slice As0 sn0 cs0, .slice Ar0 n0 cr0] 25)) = wa at *
    refine (szModel_any _ _ q0 _ _ _ _ _ _ (by omega) (by omega) hn0 hm0 HF0.out (HR0.out.later HBa.out)).mono ?_
    rintro e ws ⟨rfl, hb⟩
    rw [E0.out]
    have HB1 := Lib.hid (bl_trans HBa.out hb)
    replace p0 := kc hb p0
    replace p1 := kc hb p1
    clear hb  HBa
    go_wp2
    go_ret
    exact ⟨rfl, HB1.out⟩
  have E0 := Lib.hid (szO_yes (left := 1048576) (s := (sn0 + (n0 + totR q0 n0))) (by omega))
  have g0 : ¬ ((1048576 : Int) - ((sn0 + (n0 + totR q0 n0)) : Nat) < 0) := by omega
  obtain ⟨left1, hl1⟩ : ∃ left1 : Int, (1048576 : Int) - ((sn0 + (n0 + totR q0 n0)) : Nat) = left1 := ⟨_, rfl⟩
  have u0 : sn0 ≤ 1048576 := by omega
  have v0 : n0 ≤ 1048576 := by omega
  have FT0 := Lib.hid (fit_all (q := q0) (n := n0) (m := 1048576) (by omega))
  rw [hl1] at E0 g0
  clear hl1 z0
  go_enter Try.func7, Try.ntmps7
  go_wp2_with fail
  have p0 : (w.alloc (.cells #[.slice As0 sn0 cs0, .slice Ar0 n0 cr0] 25)).cell? ⟨w.heap.size, 0, none⟩ = some (.slice As0 sn0 cs0) := by go_simp
  have p1 : (w.alloc (.cells #[.slice As0 sn0 cs0, .slice Ar0 n0 cr0] 25)).cell? ⟨w.heap.size, 1, none⟩ = some (.slice Ar0 n0 cr0) := by go_simp
  have HBa := Lib.hid (bl_alloc (Below.refl w.heap.size w) (.cells #[.slice As0 sn0 cs0, .slice Ar0 n0 cr0] 25))
  generalize (w.alloc (.cells #[.slice As0 sn0 cs0, .slice Ar0 n0 cr0] 25)) = wa at *
  refine (szModel_any _ _ q0 _ _ _ _ _ _ (by omega) (by omega) hn0 hm0 HF0.out (HR0.out.later HBa.out)).mono ?_
  rintro e ws ⟨rfl, hb⟩
  rw [E0.out]
  have HB1 := Lib.hid (bl_trans HBa.out hb)
  replace p0 := kc hb p0
  replace p1 := kc hb p1
  clear hb  HBa
  go_wp2_with fail
  refine (toModel_any _ _ s0 q0 _ _ _ _ _ u0 v0 FT0.out (HS0.out.later HB1.out) (HR0.out.later HB1.out)).mono ?_
  rintro e wa0 ⟨Gsa0, Gra0, rfl, _, _, hos, hor, hb⟩
  have HB2 := Lib.hid (bl_trans HB1.out hb)
  replace p0 := kc hb p0
  replace p1 := kc hb p1
  have Sa0_0 := Lib.hid hos
  have Ra0_0 := Lib.hid hor
  clear hb hos hor HB1
  go_wp2_with fail
  refine (specBool_any ⟨sn0, s0⟩ n0 q0 _ _ _ _ a1 a2 _ u0 v0 FT0.out Sa0_0.out.rdAt Ra0_0.out.rdAt).mono ?_
  rintro e wsp ⟨rfl, hb⟩
  have HB3 := Lib.hid (bl_trans HB2.out hb)
  replace p0 := kc hb p0
  replace p1 := kc hb p1
  clear hb Sa0_0 Ra0_0 HB2
  obtain ⟨X, hX⟩ : ∃ X, X = bvI ⟨sn0, s0⟩ n0 q0 a1 a2 := ⟨_, rfl⟩
  rw [← hX]
  have HX := Lib.hid hX
  clear hX
  go_wp2_with fail
  refine (toModel_any _ _ s0 q0 _ _ _ _ _ u0 v0 FT0.out (HS0.out.later HB3.out) (HR0.out.later HB3.out)).mono ?_
  rintro e wx0 ⟨Gsx0, Grx0, rfl, _, _, hos, hor, hb⟩
  have HB4 := Lib.hid (bl_trans HB3.out hb)
  replace p0 := kc hb p0
  replace p1 := kc hb p1
  have Sx0_0 := Lib.hid hos
  have Rx0_0 := Lib.hid hor
  clear hb hos hor HB3
  have hb := bl_alloc (Below.refl wx0.heap.size wx0) (.cells #[.slice (some ⟨Gsx0, 0, none⟩) sn0 sn0, .slice (some ⟨Grx0, 0, none⟩) n0 n0] 30)
  have p0' := kc hb p0
  have p1' := kc hb p1
  clear hb
  go_wp2_with fail
  clear p0' p1'
  have hb := bl_alloc (Below.refl wx0.heap.size wx0) (.cells #[.slice (some ⟨Gsx0, 0, none⟩) sn0 sn0, .slice (some ⟨Grx0, 0, none⟩) n0 n0] 30)
  have x0 : (wx0.alloc (.cells #[.slice (some ⟨Gsx0, 0, none⟩) sn0 sn0, .slice (some ⟨Grx0, 0, none⟩) n0 n0] 30)).cell? ⟨wx0.heap.size, 0, none⟩ = some (.slice (some ⟨Gsx0, 0, none⟩) sn0 sn0) := by go_simp
  have x1 : (wx0.alloc (.cells #[.slice (some ⟨Gsx0, 0, none⟩) sn0 sn0, .slice (some ⟨Grx0, 0, none⟩) n0 n0] 30)).cell? ⟨wx0.heap.size, 1, none⟩ = some (.slice (some ⟨Grx0, 0, none⟩) n0 n0) := by go_simp
  have HB5 := Lib.hid (bl_trans HB4.out hb)
  replace p0 := kc hb p0
  replace p1 := kc hb p1
  have Sx0_1 := Lib.hid (Sx0_0.out.below hb Sx0_0.out.lt)
  have Rx0_1 := Lib.hid (Rx0_0.out.below hb)
  clear hb Sx0_0 Rx0_0 HB4
  obtain ⟨XB, hXB⟩ : ∃ XB, wx0.heap.size = XB := ⟨_, rfl⟩
  rw [hXB] at x0 x1 ⊢
  clear hXB
  generalize (wx0.alloc (.cells #[.slice (some ⟨Gsx0, 0, none⟩) sn0 sn0, .slice (some ⟨Grx0, 0, none⟩) n0 n0] 30)) = wz at *
  refine (implBool_any ⟨sn0, s0⟩ n0 q0 _ _ _ _ a1 a2 _ u0 v0 FT0.out Sx0_1.out.rdAt Rx0_1.out.rdAt).mono ?_
  rintro e wi ⟨rfl, hb⟩
  have HB6 := Lib.hid (bl_trans HB5.out hb)
  replace p0 := kc hb p0
  replace p1 := kc hb p1
  replace x0 := kc hb x0
  replace x1 := kc hb x1
  have Sx0_2 := Lib.hid (Sx0_1.out.below hb Sx0_1.out.lt)
  have Rx0_2 := Lib.hid (Rx0_1.out.below hb)
  clear hb Sx0_1 Rx0_1 HB5
  rw [← HX.out]
  clear HX
  go_wp2_with fail
  obtain ⟨Y0, hY0⟩ : ∃ Y, w.heap.size = Y := ⟨_, rfl⟩
  rw [hY0] at p0 p1 ⊢
  go_region_held3 (fun w' => w'.cell? ⟨Y0, 0, none⟩ = some (.slice As0 sn0 cs0) ∧ w'.cell? ⟨Y0, 1, none⟩ = some (.slice Ar0 n0 cr0) ∧ w'.cell? ⟨XB, 0, none⟩ = some (.slice (some ⟨Gsx0, 0, none⟩) sn0 sn0) ∧ w'.cell? ⟨XB, 1, none⟩ = some (.slice (some ⟨Grx0, 0, none⟩) n0 n0)) (go_keep)
    (first
      | (go_at_call 14; refine (toModel_any _ _ s0 q0 _ _ _ _ _ u0 v0 FT0.out (HS0.out.later HB6.out.drew) (HR0.out.later HB6.out.drew)).mono ?_; rintro e wy0 ⟨Hs0, Hr0, rfl, _, _, hos, hor, hb⟩; have HBy0 := Lib.hid (bl_trans HB6.out.drew hb); have YS := Lib.hid hos; have YR := Lib.hid hor; clear hos hor; have Sx0_z := Lib.hid (Sx0_2.out.below (w := wi.drew) hb Sx0_2.out.lt); have Rx0_z := Lib.hid (Rx0_2.out.below (w := wi.drew) hb); replace p0 := kc hb p0; replace p1 := kc hb p1; replace x0 := kc hb x0; replace x1 := kc hb x1; clear hb)
      | (go_at_call 16; refine (eqModel_refl _ _ s0 q0 _ _ _ _ _ _ _ _ _ u0 v0 FT0.out Sx0_z.out.rdAt Rx0_z.out.rdAt YS.out.rdAt YR.out.rdAt).mono ?_; rintro e we0 ⟨rfl, hb⟩; have HBe0 := Lib.hid (bl_trans HBy0.out hb); have Sx0_y := Lib.hid (Sx0_z.out.below hb Sx0_z.out.lt); have Rx0_y := Lib.hid (Rx0_z.out.below hb); replace p0 := kc hb p0; replace p1 := kc hb p1; replace x0 := kc hb x0; replace x1 := kc hb x1; clear hb))
  clear YS YR HBy0 Sx0_2 Sx0_z Rx0_2 Rx0_z HB6
  have Sx0_3 := Sx0_y
  have Rx0_3 := Rx0_y
  clear Sx0_y Rx0_y
  go_wp2
  go_ret
  exact ⟨rfl, by first | exact HBe0.out | (rw [← hY0]; exact HBe0.out)⟩
end Go.Proofs.Ytkphagmeoghegaa
