/- The walk of the exact law of PermuteCells (no claim of its own). Conditions: as each theorem states. -/
import Derived.Test.YtafiikfaeomhpaaPrmP
import Derived.Test.YtafiikfaeomhpaaLwtA
import Derived.Deep.RegionHeld3
import Derived.Deep.QuietTactic
namespace Go.Proofs.Ytafiikfaeomhpaa
open Go.ChangeShapes Go.WideShapes Go.ChangeAt Go.RowKit

set_option linter.unusedSimpArgs false in
set_option linter.unusedVariables false in
set_option maxRecDepth 100000 in
set_option maxHeartbeats 6400000 in
theorem lawPermuteCells_walk (As0 Ar0 : Option Addr) (sn0 cs0 n0 cr0 : Nat) (s0 : Nat → Int) (q0 : Nat → Rul) (A1 : Option Addr) (m1 cap1 : Nat) (c1 : Nat → Int) (A2 : Option Addr) (m2 cap2 : Nat) (c2 : Nat → Int) (w : World) (hn0 : sn0 ≤ maxLen) (hm0 : n0 ≤ maxLen) (hf0 : ∀ i, i < n0 → (q0 i).fit maxLen) (hs0 : RdI w w.heap.size As0 sn0 s0) (hr0 : RdRs w w.heap.size Ar0 n0 q0) (hm1 : m1 ≤ maxLen) (hr1 : RdI w w.heap.size A1 m1 c1) (hm2 : m2 ≤ maxLen) (hr2 : RdI w w.heap.size A2 m2 c2) :
    Calls Try.prog 4 #[.agg #[.slice As0 sn0 cs0, .slice Ar0 n0 cr0], .slice A1 m1 cap1, .slice A2 m2 cap2] w fun e w' => e = .returned (.bool true) ∧ Below w.heap.size w w' := by
  have HF0 := Lib.hid hf0
  have HS0 := Lib.hid hs0
  have HR0 := Lib.hid hr0
  have HC1 := Lib.hid hr1
  have HC2 := Lib.hid hr2
  clear hf0 hs0 hr0 hr1 hr2
  by_cases z1 : (1048576 : Int) < (m1 : Int)
  · have HA := Lib.hid (bl_alloc (Below.refl w.heap.size w))
    go_enter Try.func4, Try.ntmps4
    go_wp2
    go_ret
    exact ⟨rfl, HA.out _⟩
  have h1 : m1 ≤ 1048576 := by omega
  by_cases z2 : (1048576 : Int) < (m2 : Int)
  · have HA := Lib.hid (bl_alloc (Below.refl w.heap.size w))
    go_enter Try.func4, Try.ntmps4
    go_wp2
    go_ret
    exact ⟨rfl, HA.out _⟩
  have h2 : m2 ≤ 1048576 := by omega
  by_cases z0 : (1048576 : Int) < ((sn0 + (n0 + totR q0 n0)) : Nat)
  · have E0 := Lib.hid (szO_no z0)
    go_enter Try.func4, Try.ntmps4
    go_wp2_with fail
    have p0 : (w.alloc (.cells #[.slice As0 sn0 cs0, .slice Ar0 n0 cr0] 25)).cell? ⟨w.heap.size, 0, none⟩ = some (.slice As0 sn0 cs0) := by go_simp
    have p1 : (w.alloc (.cells #[.slice As0 sn0 cs0, .slice Ar0 n0 cr0] 25)).cell? ⟨w.heap.size, 1, none⟩ = some (.slice Ar0 n0 cr0) := by go_simp
    have hYu : w.heap.size < (w.alloc (.cells #[.slice As0 sn0 cs0, .slice Ar0 n0 cr0] 25)).heap.size := by simp
    have HBa := Lib.hid (bl_alloc (Below.refl w.heap.size w) (.cells #[.slice As0 sn0 cs0, .slice Ar0 n0 cr0] 25))
    generalize (w.alloc (.cells #[.slice As0 sn0 cs0, .slice Ar0 n0 cr0] 25)) = wa at *
    refine (szModel_any _ _ q0 _ _ _ _ _ _ (by omega) (by omega) hn0 hm0 HF0.out (HR0.out.later HBa.out)).mono ?_
    rintro e ws ⟨rfl, hb⟩
    rw [E0.out]
    have HB1 := Lib.hid (bl_trans HBa.out hb)
    have q1 := hb.size
    replace p0 := kc hb p0
    replace p1 := kc hb p1
    clear hb  HBa
    go_wp2
    go_ret
    exact ⟨rfl, HB1.out⟩
  have E0 := Lib.hid (szO_yes (left := 1048576) (s := (sn0 + (n0 + totR q0 n0))) (by omega))
  have g0 : ¬ ((1048576 : Int) - ((sn0 + (n0 + totR q0 n0)) : Nat) < 0) := by omega
  obtain ⟨left1, hl1⟩ : ∃ left1 : Int, (1048576 : Int) - ((sn0 + (n0 + totR q0 n0)) : Nat) = left1 := ⟨_, rfl⟩
  have u0 : sn0 ≤ 1048576 := by omega
  have v0 : n0 ≤ 1048576 := by omega
  have vt0 : n0 + totR q0 n0 ≤ 1048576 := by omega
  have FT0 := Lib.hid (fit_all (q := q0) (n := n0) (m := 1048576) (by omega))
  rw [hl1] at E0 g0
  clear hl1 z0 z1 z2
  obtain ⟨N, hN⟩ : ∃ N, pcN ⟨sn0, s0⟩ n0 q0 ⟨m1, c1⟩ ⟨m2, c2⟩ = N := ⟨_, rfl⟩
  obtain ⟨V, hV⟩ : ∃ V, mvF c1 c2 m2 = V := ⟨_, rfl⟩
  obtain ⟨ok, hok⟩ : ∃ ok, pcB ⟨sn0, s0⟩ n0 q0 ⟨m1, c1⟩ ⟨m2, c2⟩ = ok := ⟨_, rfl⟩
  have hNb : N ≤ 1048576 := by rw [← hN]; exact (pcN_le h2)
  have HN := Lib.hid hN
  have HV := Lib.hid hV
  have HOK := Lib.hid hok
  clear hN hV hok
  go_enter Try.func4, Try.ntmps4
  go_wp2_with fail
  have p0 : (w.alloc (.cells #[.slice As0 sn0 cs0, .slice Ar0 n0 cr0] 25)).cell? ⟨w.heap.size, 0, none⟩ = some (.slice As0 sn0 cs0) := by go_simp
  have p1 : (w.alloc (.cells #[.slice As0 sn0 cs0, .slice Ar0 n0 cr0] 25)).cell? ⟨w.heap.size, 1, none⟩ = some (.slice Ar0 n0 cr0) := by go_simp
  have hYu : w.heap.size < (w.alloc (.cells #[.slice As0 sn0 cs0, .slice Ar0 n0 cr0] 25)).heap.size := by simp
  have HBa := Lib.hid (bl_alloc (Below.refl w.heap.size w) (.cells #[.slice As0 sn0 cs0, .slice Ar0 n0 cr0] 25))
  generalize (w.alloc (.cells #[.slice As0 sn0 cs0, .slice Ar0 n0 cr0] 25)) = wa at *
  obtain ⟨Y0, hY0⟩ : ∃ Y, w.heap.size = Y := ⟨_, rfl⟩
  have hYl : w.heap.size ≤ Y0 := by omega
  rw [hY0] at p0 p1 hYu ⊢
  have HY0 := Lib.hid hY0
  clear hY0
  refine (szModel_any _ _ q0 _ _ _ _ _ _ (by omega) (by omega) hn0 hm0 HF0.out (HR0.out.later HBa.out)).mono ?_
  rintro e ws ⟨rfl, hb⟩
  rw [E0.out]
  have HB1 := Lib.hid (bl_trans HBa.out hb)
  have q1 := hb.size
  replace p0 := kc hb p0
  replace p1 := kc hb p1
  clear hb  HBa
  go_wp2_with fail
  refine (toModel_any _ _ s0 q0 _ _ _ _ _ u0 v0 FT0.out (HS0.out.later HB1.out) (HR0.out.later HB1.out)).mono ?_
  rintro e wa0 ⟨Gsa0, Gra0, rfl, hgs, hgr, hos, hor, hb⟩
  have HB2 := Lib.hid (bl_trans HB1.out hb)
  have q2 := hb.size
  replace p0 := kc hb p0
  replace p1 := kc hb p1
  have Sa0_0 := Lib.hid (hos)
  have Ra0_0 := Lib.hid (hor)
  clear hb  HB1
  clear hgs hgr hos hor
  go_wp2_with fail
  refine (toIntS_any _ _ _ c1 _ h1 (HC1.out.later HB2.out)).mono ?_
  rintro e wa1 ⟨Gsa1, rfl, hgs, hos, hb⟩
  have HB3 := Lib.hid (bl_trans HB2.out hb)
  have q3 := hb.size
  replace p0 := kc hb p0
  replace p1 := kc hb p1
  have Sa0_1 := Lib.hid (Sa0_0.out.below hb Sa0_0.out.lt)
  have Ra0_1 := Lib.hid (Ra0_0.out.below hb)
  have Sa1_0 := Lib.hid (hos)
  clear hb Sa0_0 Ra0_0 HB2
  clear hgs hos
  go_wp2_with fail
  refine (toIntS_any _ _ _ c2 _ h2 (HC2.out.later HB3.out)).mono ?_
  rintro e wa2 ⟨Gsa2, rfl, hgs, hos, hb⟩
  have HB4 := Lib.hid (bl_trans HB3.out hb)
  have q4 := hb.size
  replace p0 := kc hb p0
  replace p1 := kc hb p1
  have Sa0_2 := Lib.hid (Sa0_1.out.below hb Sa0_1.out.lt)
  have Ra0_2 := Lib.hid (Ra0_1.out.below hb)
  have Sa1_1 := Lib.hid (Sa1_0.out.below hb Sa1_0.out.lt)
  have Sa2_0 := Lib.hid (hos)
  clear hb Sa0_1 Ra0_1 Sa1_0 HB3
  clear hgs hos
  go_wp2_with fail
  refine (specPC_any ⟨sn0, s0⟩ ⟨m1, c1⟩ ⟨m2, c2⟩ n0 q0 _ _ _ _ _ _ _ _ _ u0 h1 h2 v0 FT0.out Sa0_2.out.rdAt Ra0_2.out.rdAt Sa1_1.out.rdAt Sa2_0.out.rdAt).mono ?_
  rw [HN.out, HV.out, HOK.out]
  rintro e wsp ⟨Aw, capw, rfl, hfw, hb⟩
  have HB5 := Lib.hid (bl_trans HB4.out hb)
  have q5 := hb.size
  replace p0 := kc hb p0
  replace p1 := kc hb p1
  have FW_0 := Lib.hid (hfw.two)
  clear hb Sa0_2 Ra0_2 Sa1_1 Sa2_0 HB4
  clear hfw
  go_wp2_with fail
  refine (toModel_any _ _ s0 q0 _ _ _ _ _ u0 v0 FT0.out (HS0.out.later HB5.out) (HR0.out.later HB5.out)).mono ?_
  rintro e wx0 ⟨Gsx0, Grx0, rfl, hgs, hgr, hos, hor, hb⟩
  have lts := hos.lt
  have ltr := hor.lt
  have hgs0 := hgs
  have hgr0 := hgr
  have HB6 := Lib.hid (bl_trans HB5.out hb)
  have q6 := hb.size
  replace p0 := kc hb p0
  replace p1 := kc hb p1
  have FW_1 := Lib.hid (FW_0.out.below hb)
  have Sx0_0 := Lib.hid (hos)
  have Rx0_0 := Lib.hid (hor)
  have HX_0 := Lib.hid (hor.hd (lo := wsp.heap.size) hgr)
  have KX_0 := Lib.hid (hos.room)
  clear hb FW_0 HB5
  clear hgs hgr hos hor
  have hb := bl_alloc (Below.refl wx0.heap.size wx0) (.cells #[.slice (some ⟨Gsx0, 0, none⟩) sn0 sn0, .slice (some ⟨Grx0, 0, none⟩) n0 n0] 30)
  have p0' := kc hb p0
  have p1' := kc hb p1
  clear hb
  go_wp2_with fail
  clear p0' p1'
  have hb := bl_alloc (Below.refl wx0.heap.size wx0) (.cells #[.slice (some ⟨Gsx0, 0, none⟩) sn0 sn0, .slice (some ⟨Grx0, 0, none⟩) n0 n0] 30)
  have x0 : (wx0.alloc (.cells #[.slice (some ⟨Gsx0, 0, none⟩) sn0 sn0, .slice (some ⟨Grx0, 0, none⟩) n0 n0] 30)).cell? ⟨wx0.heap.size, 0, none⟩ = some (.slice (some ⟨Gsx0, 0, none⟩) sn0 sn0) := by go_simp
  have x1 : (wx0.alloc (.cells #[.slice (some ⟨Gsx0, 0, none⟩) sn0 sn0, .slice (some ⟨Grx0, 0, none⟩) n0 n0] 30)).cell? ⟨wx0.heap.size, 1, none⟩ = some (.slice (some ⟨Grx0, 0, none⟩) n0 n0) := by go_simp
  have hXu : wx0.heap.size < (wx0.alloc (.cells #[.slice (some ⟨Gsx0, 0, none⟩) sn0 sn0, .slice (some ⟨Grx0, 0, none⟩) n0 n0] 30)).heap.size := by simp
  have HB7 := Lib.hid (bl_trans HB6.out hb)
  have q7 := hb.size
  replace p0 := kc hb p0
  replace p1 := kc hb p1
  have FW_2 := Lib.hid (FW_1.out.below hb)
  have Sx0_1 := Lib.hid (Sx0_0.out.below hb Sx0_0.out.lt)
  have Rx0_1 := Lib.hid (Rx0_0.out.below hb)
  have HX_1 := Lib.hid (HX_0.out.below hb)
  have KX_1 := Lib.hid (KX_0.out.shp (bl_shp hb))
  clear hb FW_1 Sx0_0 Rx0_0 HX_0 KX_0 HB6
  obtain ⟨XB, hXB⟩ : ∃ XB, wx0.heap.size = XB := ⟨_, rfl⟩
  have hXl : wx0.heap.size ≤ XB := by omega
  rw [hXB] at x0 x1 hXu ⊢
  clear hXB
  generalize (wx0.alloc (.cells #[.slice (some ⟨Gsx0, 0, none⟩) sn0 sn0, .slice (some ⟨Grx0, 0, none⟩) n0 n0] 30)) = wz at *
  refine (toIntS_any _ _ _ c1 _ h1 (HC1.out.later HB7.out)).mono ?_
  rintro e wx1 ⟨Gsx1, rfl, hgs, hos, hb⟩
  have HB8 := Lib.hid (bl_trans HB7.out hb)
  have q8 := hb.size
  replace p0 := kc hb p0
  replace p1 := kc hb p1
  replace x0 := kc hb x0
  replace x1 := kc hb x1
  have FW_3 := Lib.hid (FW_2.out.below hb)
  have Sx0_2 := Lib.hid (Sx0_1.out.below hb Sx0_1.out.lt)
  have Rx0_2 := Lib.hid (Rx0_1.out.below hb)
  have HX_2 := Lib.hid (HX_1.out.below hb)
  have KX_2 := Lib.hid (KX_1.out.shp (bl_shp hb))
  have Sx1_0 := Lib.hid (hos)
  have FX1_0 := Lib.hid (FrI.two (lo := wz.heap.size) (.inr ⟨Gsx1, rfl, hgs, OwnI.toV hos⟩))
  clear hb FW_2 Sx0_1 Rx0_1 HX_1 KX_1 HB7
  clear hgs hos
  go_wp2_with fail
  refine (toIntS_any _ _ _ c2 _ h2 (HC2.out.later HB8.out)).mono ?_
  rintro e wx2 ⟨Gsx2, rfl, hgs, hos, hb⟩
  have HB9 := Lib.hid (bl_trans HB8.out hb)
  have q9 := hb.size
  replace p0 := kc hb p0
  replace p1 := kc hb p1
  replace x0 := kc hb x0
  replace x1 := kc hb x1
  have FW_4 := Lib.hid (FW_3.out.below hb)
  have Sx0_3 := Lib.hid (Sx0_2.out.below hb Sx0_2.out.lt)
  have Rx0_3 := Lib.hid (Rx0_2.out.below hb)
  have HX_3 := Lib.hid (HX_2.out.below hb)
  have KX_3 := Lib.hid (KX_2.out.shp (bl_shp hb))
  have Sx1_1 := Lib.hid (Sx1_0.out.below hb Sx1_0.out.lt)
  have FX1_1 := Lib.hid (FX1_0.out.below hb)
  have Sx2_0 := Lib.hid (hos)
  have FX2_0 := Lib.hid (FrI.two (lo := wx1.heap.size) (.inr ⟨Gsx2, rfl, hgs, OwnI.toV hos⟩))
  clear hb FW_3 Sx0_2 Rx0_2 HX_2 KX_2 Sx1_0 FX1_0 HB8
  clear hgs hos
  go_wp2_with fail
  refine (implPC_any ⟨sn0, s0⟩ ⟨m1, c1⟩ ⟨m2, c2⟩ n0 q0 _ _ _ _ _ _ _ _ _ u0 h1 h2 v0 FT0.out Sx0_3.out.rdAt Rx0_3.out.rdAt Sx1_1.out.rdAt Sx2_0.out.rdAt).mono ?_
  rw [HN.out, HV.out, HOK.out]
  rintro e wi ⟨Ag, capg, rfl, hfg, hb⟩
  have HB10 := Lib.hid (bl_trans HB9.out hb)
  have q10 := hb.size
  replace p0 := kc hb p0
  replace p1 := kc hb p1
  replace x0 := kc hb x0
  replace x1 := kc hb x1
  have FW_5 := Lib.hid (FW_4.out.below hb)
  have Sx0_4 := Lib.hid (Sx0_3.out.below hb Sx0_3.out.lt)
  have Rx0_4 := Lib.hid (Rx0_3.out.below hb)
  have HX_4 := Lib.hid (HX_3.out.below hb)
  have KX_4 := Lib.hid (KX_3.out.shp (bl_shp hb))
  have Sx1_2 := Lib.hid (Sx1_1.out.below hb Sx1_1.out.lt)
  have FX1_2 := Lib.hid (FX1_1.out.below hb)
  have Sx2_1 := Lib.hid (Sx2_0.out.below hb Sx2_0.out.lt)
  have FX2_1 := Lib.hid (FX2_0.out.below hb)
  have FG_0 := Lib.hid (hfg.two)
  clear hb FW_4 Sx0_3 Rx0_3 HX_3 KX_3 Sx1_1 FX1_1 Sx2_0 FX2_0 HB9
  clear hfg
  go_wp2_with fail
  refine (eqIntS_refl _ _ _ _ _ V _ hNb FG_0.out.rdAt FW_5.out.rdAt).mono ?_
  rintro e wq10 ⟨rfl, hb⟩
  have HB11 := Lib.hid (bl_trans HB10.out hb)
  have q11 := hb.size
  replace p0 := kc hb p0
  replace p1 := kc hb p1
  replace x0 := kc hb x0
  replace x1 := kc hb x1
  have FW_6 := Lib.hid (FW_5.out.below hb)
  have Sx0_5 := Lib.hid (Sx0_4.out.below hb Sx0_4.out.lt)
  have Rx0_5 := Lib.hid (Rx0_4.out.below hb)
  have HX_5 := Lib.hid (HX_4.out.below hb)
  have KX_5 := Lib.hid (KX_4.out.shp (bl_shp hb))
  have Sx1_3 := Lib.hid (Sx1_2.out.below hb Sx1_2.out.lt)
  have FX1_3 := Lib.hid (FX1_2.out.below hb)
  have Sx2_2 := Lib.hid (Sx2_1.out.below hb Sx2_1.out.lt)
  have FX2_2 := Lib.hid (FX2_1.out.below hb)
  have FG_1 := Lib.hid (FG_0.out.below hb)
  clear hb FW_5 Sx0_4 Rx0_4 HX_4 KX_4 Sx1_2 FX1_2 Sx2_1 FX2_1 FG_0 HB10
  go_wp2_with fail
  go_region_held3 (fun w' => w'.cell? ⟨Y0, 0, none⟩ = some (.slice As0 sn0 cs0) ∧ w'.cell? ⟨Y0, 1, none⟩ = some (.slice Ar0 n0 cr0) ∧ w'.cell? ⟨XB, 0, none⟩ = some (.slice (some ⟨Gsx0, 0, none⟩) sn0 sn0) ∧ w'.cell? ⟨XB, 1, none⟩ = some (.slice (some ⟨Grx0, 0, none⟩) n0 n0)) (go_keep)
    (first
      | (go_at_call 11; refine (toModel_any _ _ s0 q0 _ _ _ _ _ u0 v0 FT0.out (HS0.out.later HB11.out.drew) (HR0.out.later HB11.out.drew)).mono ?_; rintro e wy0 ⟨Hs0, Hr0, rfl, _, _, hos, hor, hb⟩; have HBy0 := Lib.hid (bl_trans HB11.out.drew hb); have qy := hb.size; have YS := Lib.hid hos; have YR := Lib.hid hor; clear hos hor; have FW_z := Lib.hid (FW_6.out.below (w := wq10) (bl_trans (Below.refl wq10.heap.size wq10).drew hb)); have Sx0_z := Lib.hid (Sx0_5.out.below (w := wq10.drew) hb Sx0_5.out.lt); have Rx0_z := Lib.hid (Rx0_5.out.below (w := wq10) (bl_trans (Below.refl wq10.heap.size wq10).drew hb)); have HX_z := Lib.hid (HX_5.out.below (w := wq10) (bl_trans (Below.refl wq10.heap.size wq10).drew hb)); have KX_z := Lib.hid (KX_5.out.shp (bl_shp (w := wq10) (bl_trans (Below.refl wq10.heap.size wq10).drew hb))); have Sx1_z := Lib.hid (Sx1_3.out.below (w := wq10.drew) hb Sx1_3.out.lt); have FX1_z := Lib.hid (FX1_3.out.below (w := wq10) (bl_trans (Below.refl wq10.heap.size wq10).drew hb)); have Sx2_z := Lib.hid (Sx2_2.out.below (w := wq10.drew) hb Sx2_2.out.lt); have FX2_z := Lib.hid (FX2_2.out.below (w := wq10) (bl_trans (Below.refl wq10.heap.size wq10).drew hb)); have FG_z := Lib.hid (FG_1.out.below (w := wq10) (bl_trans (Below.refl wq10.heap.size wq10).drew hb)); replace p0 := kc hb p0; replace p1 := kc hb p1; replace x0 := kc hb x0; replace x1 := kc hb x1; clear hb)
      | (go_at_call 14; refine (eqModel_refl _ _ s0 q0 _ _ _ _ _ _ _ _ _ u0 v0 FT0.out Sx0_z.out.rdAt Rx0_z.out.rdAt YS.out.rdAt YR.out.rdAt).mono ?_; rintro e we0 ⟨rfl, hb⟩; have HBe0 := Lib.hid (bl_trans HBy0.out hb); have qe := hb.size; have FW_y := Lib.hid (FW_z.out.below hb); have Sx0_y := Lib.hid (Sx0_z.out.below hb Sx0_z.out.lt); have Rx0_y := Lib.hid (Rx0_z.out.below hb); have HX_y := Lib.hid (HX_z.out.below hb); have KX_y := Lib.hid (KX_z.out.shp (bl_shp hb)); have Sx1_y := Lib.hid (Sx1_z.out.below hb Sx1_z.out.lt); have FX1_y := Lib.hid (FX1_z.out.below hb); have Sx2_y := Lib.hid (Sx2_z.out.below hb Sx2_z.out.lt); have FX2_y := Lib.hid (FX2_z.out.below hb); have FG_y := Lib.hid (FG_z.out.below hb); replace p0 := kc hb p0; replace p1 := kc hb p1; replace x0 := kc hb x0; replace x1 := kc hb x1; clear hb))
  clear YS YR HBy0 FW_6 FW_z Sx0_5 Sx0_z Rx0_5 Rx0_z HX_5 HX_z KX_5 KX_z Sx1_3 Sx1_z FX1_3 FX1_z Sx2_2 Sx2_z FX2_2 FX2_z FG_1 FG_z HB11
  have FW_7 := FW_y
  have Sx0_6 := Sx0_y
  have Rx0_6 := Rx0_y
  have HX_6 := HX_y
  have KX_6 := KX_y
  have Sx1_4 := Sx1_y
  have FX1_4 := FX1_y
  have Sx2_3 := Sx2_y
  have FX2_3 := FX2_y
  have FG_2 := FG_y
  clear FW_y Sx0_y Rx0_y HX_y KX_y Sx1_y FX1_y Sx2_y FX2_y FG_y
  have qd : wq10.heap.size ≤ wy0.heap.size := by simpa using qy
  clear qy
  go_wp2_with fail
  refine (toIntS_any _ _ _ c1 _ h1 (HC1.out.later HBe0.out)).mono ?_
  rintro e wy1 ⟨Gsy1, rfl, hgs, hos, hb⟩
  have HB12 := Lib.hid (bl_trans HBe0.out hb)
  have q12 := hb.size
  replace p0 := kc hb p0
  replace p1 := kc hb p1
  replace x0 := kc hb x0
  replace x1 := kc hb x1
  have FW_8 := Lib.hid (FW_7.out.below hb)
  have Sx0_7 := Lib.hid (Sx0_6.out.below hb Sx0_6.out.lt)
  have Rx0_7 := Lib.hid (Rx0_6.out.below hb)
  have HX_7 := Lib.hid (HX_6.out.below hb)
  have KX_7 := Lib.hid (KX_6.out.shp (bl_shp hb))
  have Sx1_5 := Lib.hid (Sx1_4.out.below hb Sx1_4.out.lt)
  have FX1_5 := Lib.hid (FX1_4.out.below hb)
  have Sx2_4 := Lib.hid (Sx2_3.out.below hb Sx2_3.out.lt)
  have FX2_4 := Lib.hid (FX2_3.out.below hb)
  have FG_3 := Lib.hid (FG_2.out.below hb)
  have Sy1_0 := Lib.hid (hos)
  clear hb FW_7 Sx0_6 Rx0_6 HX_6 KX_6 Sx1_4 FX1_4 Sx2_3 FX2_3 FG_2 HBe0
  clear hgs hos
  go_wp2_with fail
  refine (eqIntS_refl _ _ _ _ _ c1 _ h1 Sx1_5.out.rdAt Sy1_0.out.rdAt).mono ?_
  rintro e wr1 ⟨rfl, hb⟩
  have HB13 := Lib.hid (bl_trans HB12.out hb)
  have q13 := hb.size
  replace p0 := kc hb p0
  replace p1 := kc hb p1
  replace x0 := kc hb x0
  replace x1 := kc hb x1
  have FW_9 := Lib.hid (FW_8.out.below hb)
  have Sx0_8 := Lib.hid (Sx0_7.out.below hb Sx0_7.out.lt)
  have Rx0_8 := Lib.hid (Rx0_7.out.below hb)
  have HX_8 := Lib.hid (HX_7.out.below hb)
  have KX_8 := Lib.hid (KX_7.out.shp (bl_shp hb))
  have FX1_6 := Lib.hid (FX1_5.out.below hb)
  have Sx2_5 := Lib.hid (Sx2_4.out.below hb Sx2_4.out.lt)
  have FX2_5 := Lib.hid (FX2_4.out.below hb)
  have FG_4 := Lib.hid (FG_3.out.below hb)
  clear hb FW_8 Sx0_7 Rx0_7 HX_7 KX_7 Sx1_5 FX1_5 Sx2_4 FX2_4 FG_3 Sy1_0 HB12
  go_wp2_with fail
  refine (toIntS_any _ _ _ c2 _ h2 (HC2.out.later HB13.out)).mono ?_
  rintro e wy2 ⟨Gsy2, rfl, hgs, hos, hb⟩
  have HB14 := Lib.hid (bl_trans HB13.out hb)
  have q14 := hb.size
  replace p0 := kc hb p0
  replace p1 := kc hb p1
  replace x0 := kc hb x0
  replace x1 := kc hb x1
  have FW_10 := Lib.hid (FW_9.out.below hb)
  have Sx0_9 := Lib.hid (Sx0_8.out.below hb Sx0_8.out.lt)
  have Rx0_9 := Lib.hid (Rx0_8.out.below hb)
  have HX_9 := Lib.hid (HX_8.out.below hb)
  have KX_9 := Lib.hid (KX_8.out.shp (bl_shp hb))
  have FX1_7 := Lib.hid (FX1_6.out.below hb)
  have Sx2_6 := Lib.hid (Sx2_5.out.below hb Sx2_5.out.lt)
  have FX2_6 := Lib.hid (FX2_5.out.below hb)
  have FG_5 := Lib.hid (FG_4.out.below hb)
  have Sy2_0 := Lib.hid (hos)
  clear hb FW_9 Sx0_8 Rx0_8 HX_8 KX_8 FX1_6 Sx2_5 FX2_5 FG_4 HB13
  clear hgs hos
  go_wp2_with fail
  refine (eqIntS_refl _ _ _ _ _ c2 _ h2 Sx2_6.out.rdAt Sy2_0.out.rdAt).mono ?_
  rintro e wr2 ⟨rfl, hb⟩
  have HB15 := Lib.hid (bl_trans HB14.out hb)
  have q15 := hb.size
  replace p0 := kc hb p0
  replace p1 := kc hb p1
  replace x0 := kc hb x0
  replace x1 := kc hb x1
  have FW_11 := Lib.hid (FW_10.out.below hb)
  have Sx0_10 := Lib.hid (Sx0_9.out.below hb Sx0_9.out.lt)
  have Rx0_10 := Lib.hid (Rx0_9.out.below hb)
  have HX_10 := Lib.hid (HX_9.out.below hb)
  have KX_10 := Lib.hid (KX_9.out.shp (bl_shp hb))
  have FX1_8 := Lib.hid (FX1_7.out.below hb)
  have FX2_7 := Lib.hid (FX2_6.out.below hb)
  have FG_6 := Lib.hid (FG_5.out.below hb)
  clear hb FW_10 Sx0_9 Rx0_9 HX_9 KX_9 FX1_7 Sx2_6 FX2_6 FG_5 Sy2_0 HB14
  go_wp2_with fail
  have tmk := mkR_le q0 n0
  refine (markModel_any wsp.heap.size wx0.heap.size Gsx0 Grx0 sn0 n0 _ _ q0 1 _ u0 vt0 (by omega) (by omega) hgs0 lts hgr0 ltr KX_10.out HX_10.out (by omega)).mono ?_
  rintro e wm0 ⟨rfl, hor, -⟩
  have HB16 := Lib.hid (hor.below HB15.out (by omega))
  have q16 := hor.size
  replace p0 := hor.cell (.inl (by show Y0 < wsp.heap.size; omega)) p0
  replace p1 := hor.cell (.inl (by show Y0 < wsp.heap.size; omega)) p1
  replace x0 := hor.cell (.inr (by show wx0.heap.size ≤ XB; omega)) x0
  replace x1 := hor.cell (.inr (by show wx0.heap.size ≤ XB; omega)) x1
  have FW_12 := Lib.hid (FW_11.out.onlyR hor (.inl (by omega)))
  have FX1_9 := Lib.hid (FX1_8.out.onlyR hor (.inr (by omega)))
  have FX2_8 := Lib.hid (FX2_7.out.onlyR hor (.inr (by omega)))
  have FG_7 := Lib.hid (FG_6.out.onlyR hor (.inr (by omega)))
  clear hor FW_11 HX_10 KX_10 FX1_8 FX2_7 FG_6 HB15
  obtain ⟨K0, hK0⟩ : ∃ K : Int, (1 : Int) + (sn0 : Int) + (mkR q0 n0 : Int) = K := ⟨_, rfl⟩
  have hK0a : 1 ≤ K0 := by omega
  have hK0b : K0 ≤ 8388608 := by omega
  rw [hK0]
  clear hK0 tmk
  go_wp2_with fail
  refine (markIntS_any _ _ _ _ c1 K0 _ h1 (by omega) (by omega) FX1_9.out.one).mono ?_
  rintro e wm1 ⟨rfl, hfm, ho⟩
  have HB17 := Lib.hid (ho.belI FX1_9.out HB16.out (by omega))
  have q17 := ho.size
  replace p0 := FX1_9.out.cell ho (.inl (by show Y0 < _; omega)) p0
  replace p1 := FX1_9.out.cell ho (.inl (by show Y0 < _; omega)) p1
  replace x0 := FX1_9.out.cell ho (.inl (by show XB < _; omega)) x0
  replace x1 := FX1_9.out.cell ho (.inl (by show XB < _; omega)) x1
  have FW_13 := Lib.hid (FW_12.out.only ho (FX1_9.out.apart (.inr (by omega))))
  have FX2_9 := Lib.hid (FX2_8.out.only ho (FX1_9.out.apart (.inl (by omega))))
  have FG_8 := Lib.hid (FG_7.out.only ho (FX1_9.out.apart (.inl (by omega))))
  clear ho hfm FX1_9 FW_12 FX2_8 FG_7 HB16
  obtain ⟨K1, hK1⟩ : ∃ K : Int, K0 + (m1 : Int) = K := ⟨_, rfl⟩
  have hK1a : 1 ≤ K1 := by omega
  have hK1b : K1 ≤ K0 + 1048576 := by omega
  rw [hK1]
  clear hK1
  go_wp2_with fail
  refine (markIntS_any _ _ _ _ c2 K1 _ h2 (by omega) (by omega) FX2_9.out.one).mono ?_
  rintro e wm2 ⟨rfl, hfm, ho⟩
  have HB18 := Lib.hid (ho.belI FX2_9.out HB17.out (by omega))
  have q18 := ho.size
  replace p0 := FX2_9.out.cell ho (.inl (by show Y0 < _; omega)) p0
  replace p1 := FX2_9.out.cell ho (.inl (by show Y0 < _; omega)) p1
  replace x0 := FX2_9.out.cell ho (.inl (by show XB < _; omega)) x0
  replace x1 := FX2_9.out.cell ho (.inl (by show XB < _; omega)) x1
  have FW_14 := Lib.hid (FW_13.out.only ho (FX2_9.out.apart (.inr (by omega))))
  have FG_9 := Lib.hid (FG_8.out.only ho (FX2_9.out.apart (.inl (by omega))))
  clear ho hfm FX2_9 FW_13 FG_8 HB17
  obtain ⟨K2, hK2⟩ : ∃ K : Int, K1 + (m2 : Int) = K := ⟨_, rfl⟩
  have hK2a : 1 ≤ K2 := by omega
  have hK2b : K2 ≤ K1 + 1048576 := by omega
  rw [hK2]
  clear hK2
  go_wp2_with fail
  refine (eqIntS_refl _ _ _ _ _ V _ hNb FG_9.out.rdAt FW_14.out.rdAt).mono ?_
  rintro e wq18 ⟨rfl, hb⟩
  have HB19 := Lib.hid (bl_trans HB18.out hb)
  have q19 := hb.size
  replace p0 := kc hb p0
  replace p1 := kc hb p1
  replace x0 := kc hb x0
  replace x1 := kc hb x1
  have FW_15 := Lib.hid (FW_14.out.below hb)
  have FG_10 := Lib.hid (FG_9.out.below hb)
  clear hb FW_14 FG_9 HB18
  go_wp2_with fail
  refine (markIntS_any _ _ _ _ V 1 _ hNb (by omega) (by omega) FG_10.out.one).mono ?_
  rintro e wg ⟨rfl, hfm, ho⟩
  have HB20 := Lib.hid (ho.belI FG_10.out HB19.out (by omega))
  have q20 := ho.size
  replace p0 := FG_10.out.cell ho (.inl (by show Y0 < _; omega)) p0
  replace p1 := FG_10.out.cell ho (.inl (by show Y0 < _; omega)) p1
  replace x0 := FG_10.out.cell ho (.inl (by show XB < _; omega)) x0
  replace x1 := FG_10.out.cell ho (.inl (by show XB < _; omega)) x1
  have FW_16 := Lib.hid (FW_15.out.only ho (FG_10.out.apart (.inr (by omega))))
  have FM_0 := Lib.hid hfm.two
  clear ho hfm FG_10 FW_15 HB19
  go_wp2_with fail
  refine (heldIntS_any _ _ _ _ 1 _ hNb (by omega) (by omega) FM_0.out.one).mono ?_
  rintro e wh1 ⟨rfl, hwwh1⟩
  subst hwwh1
  have hk2 : ¬ ((1 : Int) + (N : Int) < 0) := by omega
  go_wp2_with fail
  refine (toModel_any _ _ s0 q0 _ _ _ _ _ u0 v0 FT0.out (HS0.out.later HB20.out) (HR0.out.later HB20.out)).mono ?_
  rintro e wz0 ⟨Gsz0, Grz0, rfl, hgs, hgr, hos, hor, hb⟩
  have HB21 := Lib.hid (bl_trans HB20.out hb)
  have q21 := hb.size
  replace p0 := kc hb p0
  replace p1 := kc hb p1
  replace x0 := kc hb x0
  replace x1 := kc hb x1
  have FW_17 := Lib.hid (FW_16.out.below hb)
  have FM_1 := Lib.hid (FM_0.out.below hb)
  have Sz0_0 := Lib.hid (hos)
  have Rz0_0 := Lib.hid (hor)
  clear hb FW_16 FM_0 HB20
  clear hgs hgr hos hor
  go_wp2_with fail
  refine (toIntS_any _ _ _ c1 _ h1 (HC1.out.later HB21.out)).mono ?_
  rintro e wz1 ⟨Gsz1, rfl, hgs, hos, hb⟩
  have HB22 := Lib.hid (bl_trans HB21.out hb)
  have q22 := hb.size
  replace p0 := kc hb p0
  replace p1 := kc hb p1
  replace x0 := kc hb x0
  replace x1 := kc hb x1
  have FW_18 := Lib.hid (FW_17.out.below hb)
  have FM_2 := Lib.hid (FM_1.out.below hb)
  have Sz0_1 := Lib.hid (Sz0_0.out.below hb Sz0_0.out.lt)
  have Rz0_1 := Lib.hid (Rz0_0.out.below hb)
  have Sz1_0 := Lib.hid (hos)
  clear hb FW_17 FM_1 Sz0_0 Rz0_0 HB21
  clear hgs hos
  go_wp2_with fail
  refine (toIntS_any _ _ _ c2 _ h2 (HC2.out.later HB22.out)).mono ?_
  rintro e wz2 ⟨Gsz2, rfl, hgs, hos, hb⟩
  have HB23 := Lib.hid (bl_trans HB22.out hb)
  have q23 := hb.size
  replace p0 := kc hb p0
  replace p1 := kc hb p1
  replace x0 := kc hb x0
  replace x1 := kc hb x1
  have FW_19 := Lib.hid (FW_18.out.below hb)
  have FM_3 := Lib.hid (FM_2.out.below hb)
  have Sz0_2 := Lib.hid (Sz0_1.out.below hb Sz0_1.out.lt)
  have Rz0_2 := Lib.hid (Rz0_1.out.below hb)
  have Sz1_1 := Lib.hid (Sz1_0.out.below hb Sz1_0.out.lt)
  have Sz2_0 := Lib.hid (hos)
  clear hb FW_18 FM_2 Sz0_1 Rz0_1 Sz1_0 HB22
  clear hgs hos
  go_wp2_with fail
  refine (implPC_any ⟨sn0, s0⟩ ⟨m1, c1⟩ ⟨m2, c2⟩ n0 q0 _ _ _ _ _ _ _ _ _ u0 h1 h2 v0 FT0.out Sz0_2.out.rdAt Rz0_2.out.rdAt Sz1_1.out.rdAt Sz2_0.out.rdAt).mono ?_
  rw [HN.out, HV.out, HOK.out]
  rintro e wj ⟨Ah, caph, rfl, hfh, hb⟩
  have HB24 := Lib.hid (bl_trans HB23.out hb)
  have q24 := hb.size
  replace p0 := kc hb p0
  replace p1 := kc hb p1
  replace x0 := kc hb x0
  replace x1 := kc hb x1
  have FW_20 := Lib.hid (FW_19.out.below hb)
  have FM_4 := Lib.hid (FM_3.out.below hb)
  have FH_0 := Lib.hid (hfh.two)
  clear hb FW_19 FM_3 Sz0_2 Rz0_2 Sz1_1 Sz2_0 HB23
  clear hfh
  go_wp2_with fail
  refine (eqIntS_refl _ _ _ _ _ V _ hNb FH_0.out.rdAt FW_20.out.rdAt).mono ?_
  rintro e wq24 ⟨rfl, hb⟩
  have HB25 := Lib.hid (bl_trans HB24.out hb)
  have q25 := hb.size
  replace p0 := kc hb p0
  replace p1 := kc hb p1
  replace x0 := kc hb x0
  replace x1 := kc hb x1
  have FM_5 := Lib.hid (FM_4.out.below hb)
  clear hb FW_20 FM_4 FH_0 HB24
  go_wp2_with fail
  refine (heldIntS_any _ _ _ _ 1 _ hNb (by omega) (by omega) FM_5.out.one).mono ?_
  rintro e wh2 ⟨rfl, hwwh2⟩
  subst hwwh2
  go_wp2
  go_ret
  exact ⟨rfl, by first | exact HB25.out | (rw [← HY0.out]; exact HB25.out)⟩
end Go.Proofs.Ytafiikfaeomhpaa
