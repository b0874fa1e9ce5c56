/- The walk of the exact law of FullDomains (no claim of its own). Conditions: as each theorem states. -/
import Derived.Test.YtgjjcikdbpjajaaFdmE
import Derived.Test.YtgjjcikdbpjajaaLwtA
import Derived.Deep.RegionHeld3
import Derived.Deep.QuietTactic
namespace Go.Proofs.Ytgjjcikdbpjajaa
open Go.ChangeShapes Go.WideShapes Go.ChangeAt Go.RowKit

set_option linter.unusedSimpArgs false in
set_option linter.unusedVariables false in
set_option maxRecDepth 100000 in
set_option maxHeartbeats 6400000 in
theorem lawFullDomains_walk (As0 Ar0 : Option Addr) (sn0 cs0 n0 cr0 : Nat) (s0 : Nat → Int) (q0 : Nat → Rul) (w : World) (hn0 : sn0 ≤ maxLen) (hm0 : n0 ≤ maxLen) (hf0 : ∀ i, i < n0 → (q0 i).fit maxLen) (hs0 : RdI w w.heap.size As0 sn0 s0) (hr0 : RdRs w w.heap.size Ar0 n0 q0) :
    Calls Try.prog 4 #[.agg #[.slice As0 sn0 cs0, .slice Ar0 n0 cr0]] w fun e w' => e = .returned (.bool true) ∧ Below w.heap.size w w' := by
  have HF0 := Lib.hid hf0
  have HS0 := Lib.hid hs0
  have HR0 := Lib.hid hr0
  clear hf0 hs0 hr0
  by_cases z0 : (1048576 : Int) < ((sn0 + (n0 + totR q0 n0)) : Nat)
  · have E0 := Lib.hid (szO_no z0)
    go_enter Try.func4, Try.ntmps4
    go_wp2_with fail
    have p0 : (w.alloc (.cells #[.slice As0 sn0 cs0, .slice Ar0 n0 cr0] 25)).cell? ⟨w.heap.size, 0, none⟩ = some (.slice As0 sn0 cs0) := by go_simp
    have p1 : (w.alloc (.cells #[.slice As0 sn0 cs0, .slice Ar0 n0 cr0] 25)).cell? ⟨w.heap.size, 1, none⟩ = some (.slice Ar0 n0 cr0) := by go_simp
    have hYu : w.heap.size < (w.alloc (.cells #[.slice As0 sn0 cs0, .slice Ar0 n0 cr0] 25)).heap.size := by simp
    have HBa := Lib.hid (bl_alloc (Below.refl w.heap.size w) (.cells #[.slice As0 sn0 cs0, .slice Ar0 n0 cr0] 25))
    generalize (w.alloc (.cells #[.slice As0 sn0 cs0, .slice Ar0 n0 cr0] 25)) = wa at *
    refine (szModel_any _ _ q0 _ _ _ _ _ _ (by omega) (by omega) hn0 hm0 HF0.out (HR0.out.later HBa.out)).mono ?_
    rintro e ws ⟨rfl, hb⟩
    rw [E0.out]
    have HB1 := Lib.hid (bl_trans HBa.out hb)
    have q1 := hb.size
    replace p0 := kc hb p0
    replace p1 := kc hb p1
    clear hb  HBa
    go_wp2
    go_ret
    exact ⟨rfl, HB1.out⟩
  have E0 := Lib.hid (szO_yes (left := 1048576) (s := (sn0 + (n0 + totR q0 n0))) (by omega))
  have g0 : ¬ ((1048576 : Int) - ((sn0 + (n0 + totR q0 n0)) : Nat) < 0) := by omega
  obtain ⟨left1, hl1⟩ : ∃ left1 : Int, (1048576 : Int) - ((sn0 + (n0 + totR q0 n0)) : Nat) = left1 := ⟨_, rfl⟩
  have u0 : sn0 ≤ 1048576 := by omega
  have v0 : n0 ≤ 1048576 := by omega
  have vt0 : n0 + totR q0 n0 ≤ 1048576 := by omega
  have FT0 := Lib.hid (fit_all (q := q0) (n := n0) (m := 1048576) (by omega))
  rw [hl1] at E0 g0
  clear hl1 z0
  obtain ⟨N, hN⟩ : ∃ N, fdN ⟨sn0, s0⟩ n0 q0 = N := ⟨_, rfl⟩
  obtain ⟨V, hV⟩ : ∃ V, fulL ⟨sn0, s0⟩ = V := ⟨_, rfl⟩
  have hN5 : N ≤ 5 := by rw [← hN]; exact fdN_le
  have HV4 := Lib.hid (show ∀ i, i < N → (V i).n ≤ 4 by rw [← hN, ← hV]; exact fd_row)
  have hNb : N ≤ 1048576 := by omega
  have HVb := Lib.hid (show ∀ i, i < N → (V i).n ≤ 1048576 from fun i hi => by have := HV4.out i hi; omega)
  have hT4 := totB_le4 HV4.out
  have hTb : N + totB V N ≤ 1048576 := by omega
  have HN := Lib.hid hN
  have HV := Lib.hid hV
  clear hN hV
  go_enter Try.func4, Try.ntmps4
  go_wp2_with fail
  have p0 : (w.alloc (.cells #[.slice As0 sn0 cs0, .slice Ar0 n0 cr0] 25)).cell? ⟨w.heap.size, 0, none⟩ = some (.slice As0 sn0 cs0) := by go_simp
  have p1 : (w.alloc (.cells #[.slice As0 sn0 cs0, .slice Ar0 n0 cr0] 25)).cell? ⟨w.heap.size, 1, none⟩ = some (.slice Ar0 n0 cr0) := by go_simp
  have hYu : w.heap.size < (w.alloc (.cells #[.slice As0 sn0 cs0, .slice Ar0 n0 cr0] 25)).heap.size := by simp
  have HBa := Lib.hid (bl_alloc (Below.refl w.heap.size w) (.cells #[.slice As0 sn0 cs0, .slice Ar0 n0 cr0] 25))
  generalize (w.alloc (.cells #[.slice As0 sn0 cs0, .slice Ar0 n0 cr0] 25)) = wa at *
  obtain ⟨Y0, hY0⟩ : ∃ Y, w.heap.size = Y := ⟨_, rfl⟩
  have hYl : w.heap.size ≤ Y0 := by omega
  rw [hY0] at p0 p1 hYu ⊢
  have HY0 := Lib.hid hY0
  clear hY0
  refine (szModel_any _ _ q0 _ _ _ _ _ _ (by omega) (by omega) hn0 hm0 HF0.out (HR0.out.later HBa.out)).mono ?_
  rintro e ws ⟨rfl, hb⟩
  rw [E0.out]
  have HB1 := Lib.hid (bl_trans HBa.out hb)
  have q1 := hb.size
  replace p0 := kc hb p0
  replace p1 := kc hb p1
  clear hb  HBa
  go_wp2_with fail
  refine (toModel_any _ _ s0 q0 _ _ _ _ _ u0 v0 FT0.out (HS0.out.later HB1.out) (HR0.out.later HB1.out)).mono ?_
  rintro e wa0 ⟨Gsa0, Gra0, rfl, hgs, hgr, hos, hor, hb⟩
  have HB2 := Lib.hid (bl_trans HB1.out hb)
  have q2 := hb.size
  replace p0 := kc hb p0
  replace p1 := kc hb p1
  have Sa0_0 := Lib.hid (hos)
  have Ra0_0 := Lib.hid (hor)
  clear hb  HB1
  clear hgs hgr hos hor
  go_wp2_with fail
  refine (specFD_any ⟨sn0, s0⟩ n0 q0 _ _ _ _ _ u0 v0 FT0.out Sa0_0.out.rdAt Ra0_0.out.rdAt).mono ?_
  rw [HN.out, HV.out]
  rintro e wsp ⟨Aw, capw, rfl, hfw, hb⟩
  have FW0 := Lib.hid (show RdW wsp wsp.heap.size Aw N V from ⟨hfw, Nat.le_refl _⟩)
  have HB3 := Lib.hid (bl_trans HB2.out hb)
  have q3 := hb.size
  replace p0 := kc hb p0
  replace p1 := kc hb p1
  have FW_0 := Lib.hid (FW0.out)
  clear hb Sa0_0 Ra0_0 HB2
  clear hfw FW0
  go_wp2_with fail
  refine (toModel_any _ _ s0 q0 _ _ _ _ _ u0 v0 FT0.out (HS0.out.later HB3.out) (HR0.out.later HB3.out)).mono ?_
  rintro e wx0 ⟨Gsx0, Grx0, rfl, hgs, hgr, hos, hor, hb⟩
  have lts := hos.lt
  have ltr := hor.lt
  have hgs0 := hgs
  have hgr0 := hgr
  have HB4 := Lib.hid (bl_trans HB3.out hb)
  have q4 := hb.size
  replace p0 := kc hb p0
  replace p1 := kc hb p1
  have FW_1 := Lib.hid (FW_0.out.below hb)
  have Sx0_0 := Lib.hid (hos)
  have Rx0_0 := Lib.hid (hor)
  have HX_0 := Lib.hid (hor.hd (lo := wsp.heap.size) hgr)
  have KX_0 := Lib.hid (hos.room)
  clear hb FW_0 HB3
  clear hgs hgr hos hor
  have hb := bl_alloc (Below.refl wx0.heap.size wx0) (.cells #[.slice (some ⟨Gsx0, 0, none⟩) sn0 sn0, .slice (some ⟨Grx0, 0, none⟩) n0 n0] 32)
  have p0' := kc hb p0
  have p1' := kc hb p1
  clear hb
  go_wp2_with fail
  clear p0' p1'
  have hb := bl_alloc (Below.refl wx0.heap.size wx0) (.cells #[.slice (some ⟨Gsx0, 0, none⟩) sn0 sn0, .slice (some ⟨Grx0, 0, none⟩) n0 n0] 32)
  have x0 : (wx0.alloc (.cells #[.slice (some ⟨Gsx0, 0, none⟩) sn0 sn0, .slice (some ⟨Grx0, 0, none⟩) n0 n0] 32)).cell? ⟨wx0.heap.size, 0, none⟩ = some (.slice (some ⟨Gsx0, 0, none⟩) sn0 sn0) := by go_simp
  have x1 : (wx0.alloc (.cells #[.slice (some ⟨Gsx0, 0, none⟩) sn0 sn0, .slice (some ⟨Grx0, 0, none⟩) n0 n0] 32)).cell? ⟨wx0.heap.size, 1, none⟩ = some (.slice (some ⟨Grx0, 0, none⟩) n0 n0) := by go_simp
  have hXu : wx0.heap.size < (wx0.alloc (.cells #[.slice (some ⟨Gsx0, 0, none⟩) sn0 sn0, .slice (some ⟨Grx0, 0, none⟩) n0 n0] 32)).heap.size := by simp
  have HB5 := Lib.hid (bl_trans HB4.out hb)
  have q5 := hb.size
  replace p0 := kc hb p0
  replace p1 := kc hb p1
  have FW_2 := Lib.hid (FW_1.out.below hb)
  have Sx0_1 := Lib.hid (Sx0_0.out.below hb Sx0_0.out.lt)
  have Rx0_1 := Lib.hid (Rx0_0.out.below hb)
  have HX_1 := Lib.hid (HX_0.out.below hb)
  have KX_1 := Lib.hid (KX_0.out.shp (bl_shp hb))
  clear hb FW_1 Sx0_0 Rx0_0 HX_0 KX_0 HB4
  obtain ⟨XB, hXB⟩ : ∃ XB, wx0.heap.size = XB := ⟨_, rfl⟩
  have hXl : wx0.heap.size ≤ XB := by omega
  rw [hXB] at x0 x1 hXu ⊢
  clear hXB
  generalize (wx0.alloc (.cells #[.slice (some ⟨Gsx0, 0, none⟩) sn0 sn0, .slice (some ⟨Grx0, 0, none⟩) n0 n0] 32)) = wz at *
  refine (implFD_any ⟨sn0, s0⟩ n0 q0 _ _ _ _ _ u0 v0 FT0.out Sx0_1.out.rdAt Rx0_1.out.rdAt).mono ?_
  rw [HN.out, HV.out]
  rintro e wi ⟨Ag, capg, rfl, hfg, hb⟩
  have HB6 := Lib.hid (bl_trans HB5.out hb)
  have q6 := hb.size
  replace p0 := kc hb p0
  replace p1 := kc hb p1
  replace x0 := kc hb x0
  replace x1 := kc hb x1
  have FW_3 := Lib.hid (FW_2.out.below hb)
  have Sx0_2 := Lib.hid (Sx0_1.out.below hb Sx0_1.out.lt)
  have Rx0_2 := Lib.hid (Rx0_1.out.below hb)
  have HX_2 := Lib.hid (HX_1.out.below hb)
  have KX_2 := Lib.hid (KX_1.out.shp (bl_shp hb))
  have FG_0 := Lib.hid (show LB2 wi wz.heap.size wi.heap.size Ag N V from hfg)
  clear hb FW_2 Sx0_1 Rx0_1 HX_1 KX_1 HB5
  clear hfg
  go_wp2_with fail
  refine (eqBoolSS_refl _ _ _ _ _ V _ hNb HVb.out FG_0.out.rd FW_3.out.rd).mono ?_
  rintro e wq6 ⟨rfl, hb⟩
  have HB7 := Lib.hid (bl_trans HB6.out hb)
  have q7 := hb.size
  replace p0 := kc hb p0
  replace p1 := kc hb p1
  replace x0 := kc hb x0
  replace x1 := kc hb x1
  have FW_4 := Lib.hid (FW_3.out.below hb)
  have Sx0_3 := Lib.hid (Sx0_2.out.below hb Sx0_2.out.lt)
  have Rx0_3 := Lib.hid (Rx0_2.out.below hb)
  have HX_3 := Lib.hid (HX_2.out.below hb)
  have KX_3 := Lib.hid (KX_2.out.shp (bl_shp hb))
  have FG_1 := Lib.hid (FG_0.out.below hb)
  clear hb FW_3 Sx0_2 Rx0_2 HX_2 KX_2 FG_0 HB6
  go_wp2_with fail
  go_region_held3 (fun w' => w'.cell? ⟨Y0, 0, none⟩ = some (.slice As0 sn0 cs0) ∧ w'.cell? ⟨Y0, 1, none⟩ = some (.slice Ar0 n0 cr0) ∧ w'.cell? ⟨XB, 0, none⟩ = some (.slice (some ⟨Gsx0, 0, none⟩) sn0 sn0) ∧ w'.cell? ⟨XB, 1, none⟩ = some (.slice (some ⟨Grx0, 0, none⟩) n0 n0)) (go_keep)
    (first
      | (go_at_call 18; refine (toModel_any _ _ s0 q0 _ _ _ _ _ u0 v0 FT0.out (HS0.out.later HB7.out.drew) (HR0.out.later HB7.out.drew)).mono ?_; rintro e wy0 ⟨Hs0, Hr0, rfl, _, _, hos, hor, hb⟩; have HBy0 := Lib.hid (bl_trans HB7.out.drew hb); have qy := hb.size; have YS := Lib.hid hos; have YR := Lib.hid hor; clear hos hor; have FW_z := Lib.hid (FW_4.out.below (w := wq6) (bl_trans (Below.refl wq6.heap.size wq6).drew hb)); have Sx0_z := Lib.hid (Sx0_3.out.below (w := wq6.drew) hb Sx0_3.out.lt); have Rx0_z := Lib.hid (Rx0_3.out.below (w := wq6) (bl_trans (Below.refl wq6.heap.size wq6).drew hb)); have HX_z := Lib.hid (HX_3.out.below (w := wq6) (bl_trans (Below.refl wq6.heap.size wq6).drew hb)); have KX_z := Lib.hid (KX_3.out.shp (bl_shp (w := wq6) (bl_trans (Below.refl wq6.heap.size wq6).drew hb))); have FG_z := Lib.hid (FG_1.out.below (w := wq6) (bl_trans (Below.refl wq6.heap.size wq6).drew hb)); replace p0 := kc hb p0; replace p1 := kc hb p1; replace x0 := kc hb x0; replace x1 := kc hb x1; clear hb)
      | (go_at_call 21; refine (eqModel_refl _ _ s0 q0 _ _ _ _ _ _ _ _ _ u0 v0 FT0.out Sx0_z.out.rdAt Rx0_z.out.rdAt YS.out.rdAt YR.out.rdAt).mono ?_; rintro e we0 ⟨rfl, hb⟩; have HBe0 := Lib.hid (bl_trans HBy0.out hb); have qe := hb.size; have FW_y := Lib.hid (FW_z.out.below hb); have Sx0_y := Lib.hid (Sx0_z.out.below hb Sx0_z.out.lt); have Rx0_y := Lib.hid (Rx0_z.out.below hb); have HX_y := Lib.hid (HX_z.out.below hb); have KX_y := Lib.hid (KX_z.out.shp (bl_shp hb)); have FG_y := Lib.hid (FG_z.out.below hb); replace p0 := kc hb p0; replace p1 := kc hb p1; replace x0 := kc hb x0; replace x1 := kc hb x1; clear hb))
  clear YS YR HBy0 FW_4 FW_z Sx0_3 Sx0_z Rx0_3 Rx0_z HX_3 HX_z KX_3 KX_z FG_1 FG_z HB7
  have FW_5 := FW_y
  have Sx0_4 := Sx0_y
  have Rx0_4 := Rx0_y
  have HX_4 := HX_y
  have KX_4 := KX_y
  have FG_2 := FG_y
  clear FW_y Sx0_y Rx0_y HX_y KX_y FG_y
  have qd : wq6.heap.size ≤ wy0.heap.size := by simpa using qy
  clear qy
  go_wp2_with fail
  have tmk := mkR_le q0 n0
  refine (markModel_any wsp.heap.size wx0.heap.size Gsx0 Grx0 sn0 n0 _ _ q0 1 _ u0 vt0 (by omega) (by omega) hgs0 lts hgr0 ltr KX_4.out HX_4.out (by omega)).mono ?_
  rintro e wm0 ⟨rfl, hor, -⟩
  have HB8 := Lib.hid (hor.below HBe0.out (by omega))
  have q8 := hor.size
  replace p0 := hor.cell (.inl (by show Y0 < wsp.heap.size; omega)) p0
  replace p1 := hor.cell (.inl (by show Y0 < wsp.heap.size; omega)) p1
  replace x0 := hor.cell (.inr (by show wx0.heap.size ≤ XB; omega)) x0
  replace x1 := hor.cell (.inr (by show wx0.heap.size ≤ XB; omega)) x1
  have FW_6 := Lib.hid (FW_5.out.onlyR hor (by omega))
  have FG_3 := Lib.hid (FG_2.out.onlyR hor (.inr (by omega)))
  clear hor FW_5 HX_4 KX_4 FG_2 HBe0
  obtain ⟨K0, hK0⟩ : ∃ K : Int, (1 : Int) + (sn0 : Int) + (mkR q0 n0 : Int) = K := ⟨_, rfl⟩
  have hK0a : 1 ≤ K0 := by omega
  have hK0b : K0 ≤ 8388608 := by omega
  rw [hK0]
  clear hK0 tmk
  go_wp2_with fail
  refine (eqBoolSS_refl _ _ _ _ _ V _ hNb HVb.out FG_3.out.rd FW_6.out.rd).mono ?_
  rintro e wq8 ⟨rfl, hb⟩
  have HB9 := Lib.hid (bl_trans HB8.out hb)
  have q9 := hb.size
  replace p0 := kc hb p0
  replace p1 := kc hb p1
  replace x0 := kc hb x0
  replace x1 := kc hb x1
  have FW_7 := Lib.hid (FW_6.out.below hb)
  have FG_4 := Lib.hid (FG_3.out.below hb)
  clear hb FW_6 FG_3 HB8
  go_wp2_with fail
  refine (markLs2 _ _ _ _ _ V 1 _ hTb (by omega) (by omega) FG_4.out).mono ?_
  rintro e wg ⟨rfl, hfm, ho⟩
  have HB10 := Lib.hid (ho.below HB9.out (by omega))
  have q10 := ho.size
  replace p0 := ho.cell (.inl (by show Y0 < _; omega)) p0
  replace p1 := ho.cell (.inl (by show Y0 < _; omega)) p1
  replace x0 := ho.cell (.inl (by show XB < _; omega)) x0
  replace x1 := ho.cell (.inl (by show XB < _; omega)) x1
  have FW_8 := Lib.hid (FW_7.out.onlyR ho (by omega))
  have FM_0 := Lib.hid hfm
  clear ho hfm FG_4 FW_7 HB9
  go_wp2_with fail
  refine (heldLs2 _ _ _ _ _ V 1 _ hTb (by omega) (by omega) FM_0.out).mono ?_
  rintro e wh1 ⟨rfl, hwwh1⟩
  subst hwwh1
  have hk2 : ¬ ((1 : Int) + (totB V N : Int) < 0) := by omega
  go_wp2_with fail
  refine (toModel_any _ _ s0 q0 _ _ _ _ _ u0 v0 FT0.out (HS0.out.later HB10.out) (HR0.out.later HB10.out)).mono ?_
  rintro e wz0 ⟨Gsz0, Grz0, rfl, hgs, hgr, hos, hor, hb⟩
  have HB11 := Lib.hid (bl_trans HB10.out hb)
  have q11 := hb.size
  replace p0 := kc hb p0
  replace p1 := kc hb p1
  replace x0 := kc hb x0
  replace x1 := kc hb x1
  have FW_9 := Lib.hid (FW_8.out.below hb)
  have FM_1 := Lib.hid (FM_0.out.below hb)
  have Sz0_0 := Lib.hid (hos)
  have Rz0_0 := Lib.hid (hor)
  clear hb FW_8 FM_0 HB10
  clear hgs hgr hos hor
  go_wp2_with fail
  refine (implFD_any ⟨sn0, s0⟩ n0 q0 _ _ _ _ _ u0 v0 FT0.out Sz0_0.out.rdAt Rz0_0.out.rdAt).mono ?_
  rw [HN.out, HV.out]
  rintro e wj ⟨Ah, caph, rfl, hfh, hb⟩
  have HB12 := Lib.hid (bl_trans HB11.out hb)
  have q12 := hb.size
  replace p0 := kc hb p0
  replace p1 := kc hb p1
  replace x0 := kc hb x0
  replace x1 := kc hb x1
  have FW_10 := Lib.hid (FW_9.out.below hb)
  have FM_2 := Lib.hid (FM_1.out.below hb)
  have FH_0 := Lib.hid (show LB2 wj _ wj.heap.size Ah N V from hfh)
  clear hb FW_9 FM_1 Sz0_0 Rz0_0 HB11
  clear hfh
  go_wp2_with fail
  refine (eqBoolSS_refl _ _ _ _ _ V _ hNb HVb.out FH_0.out.rd FW_10.out.rd).mono ?_
  rintro e wq12 ⟨rfl, hb⟩
  have HB13 := Lib.hid (bl_trans HB12.out hb)
  have q13 := hb.size
  replace p0 := kc hb p0
  replace p1 := kc hb p1
  replace x0 := kc hb x0
  replace x1 := kc hb x1
  have FM_3 := Lib.hid (FM_2.out.below hb)
  clear hb FW_10 FM_2 FH_0 HB12
  go_wp2_with fail
  refine (heldLs2 _ _ _ _ _ V 1 _ hTb (by omega) (by omega) FM_3.out).mono ?_
  rintro e wh2 ⟨rfl, hwwh2⟩
  subst hwwh2
  go_wp2
  go_ret
  exact ⟨rfl, by first | exact HB13.out | (rw [← HY0.out]; exact HB13.out)⟩
end Go.Proofs.Ytgjjcikdbpjajaa
