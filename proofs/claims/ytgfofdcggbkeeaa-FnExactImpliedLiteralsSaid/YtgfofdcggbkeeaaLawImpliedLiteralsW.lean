/- The walk of the exact law of ImpliedLiterals (no claim of its own). Conditions: as each theorem states. -/
import Derived.Test.YtgfofdcggbkeeaaImpB
import Derived.Deep.RegionHeld3
namespace Go.Proofs.Ytgfofdcggbkeeaa
open Go.ChangeShapes Go.WideShapes Go.ChangeAt Go.RowKit

set_option maxRecDepth 100000 in
set_option maxHeartbeats 1600000 in
theorem lawImp_no1 (A Av : Option Addr) (n cap nv capv : Nat) (bd : Int) (w : World) (hn : 1048576 < nv) :
    Calls Try.prog 6 #[.agg #[.slice A n cap, .int .i64 bd], .slice Av nv capv] w fun e w' => e = .returned (.bool true) ∧ Below w.heap.size w w' := by
  have hni : (1048576 : Int) < (nv : Int) := by omega
  go_enter Try.func6, Try.ntmps6
  go_wp2
  go_ret
  exact ⟨rfl, bl_alloc (Below.refl _ _) _⟩

set_option maxRecDepth 100000 in
set_option maxHeartbeats 1600000 in
theorem lawImp_no2 (A Av : Option Addr) (n cap nv capv : Nat) (bd : Int) (w : World) (hnv : nv ≤ 1048576) (hn : 1048576 < n) (hm : n ≤ maxLen) :
    Calls Try.prog 6 #[.agg #[.slice A n cap, .int .i64 bd], .slice Av nv capv] w fun e w' => e = .returned (.bool true) ∧ Below w.heap.size w w' := by
  have hni : ¬ (1048576 : Int) < (nv : Int) := by omega
  go_enter Try.func6, Try.ntmps6
  go_wp2_with (go_at_call 21; refine (szConstraint_no _ _ _ _ _ _ (by omega) (by omega) (by omega) hm).mono ?_; rintro e w' ⟨rfl, hb⟩; have HB := Lib.hid (bl_trans (bl_alloc (Below.refl w.heap.size w) _) hb); clear hb)
  go_ret
  exact ⟨rfl, HB.out⟩

set_option maxRecDepth 100000 in
set_option maxHeartbeats 6400000 in
theorem lawImp_ok (A Av : Option Addr) (n cap nv capv : Nat) (bd : Int) (c l : Nat → Int) (v : Nat → Int) (L : List Int) (w : World) (hn : n ≤ 1048576) (hnv : nv ≤ 1048576) (hN : L.length ≤ 1048576) (hr : Rd w w.heap.size A n c l) (hrv : RdI w w.heap.size Av nv v)
    (hS : ∀ A cap Av capv W, Rd W W.heap.size A n c l → RdI W W.heap.size Av nv v → Calls Try.prog 26 #[.agg #[.slice A n cap, .int .i64 bd], .slice Av nv capv] W (LRes W L))
    (hI : ∀ A cap Av capv W, Rd W W.heap.size A n c l → RdI W W.heap.size Av nv v → Calls Try.prog 27 #[.agg #[.slice A n cap, .int .i64 bd], .slice Av nv capv] W (LRes W L)) :
    Calls Try.prog 6 #[.agg #[.slice A n cap, .int .i64 bd], .slice Av nv capv] w fun e w' => e = .returned (.bool true) ∧ Below w.heap.size w w' := by
  have hni : (n : Int) ≤ 1048576 := by omega
  have hnvi : ¬ (1048576 : Int) < (nv : Int) := by omega
  have HS := Lib.hid hS
  have HI := Lib.hid hI
  clear hS hI
  go_enter Try.func6, Try.ntmps6
  go_wp2_with fail
  refine (szConstraint_ok _ _ _ _ _ _ (by omega) (by omega) hni).mono ?_
  rintro e w1 ⟨rfl, hb⟩
  have HB1 := Lib.hid (bl_trans (bl_alloc (Below.refl w.heap.size w) _) hb)
  have a0 : w1.cell? ⟨w.heap.size, 0, none⟩ = some (.slice A n cap) := kc hb (by go_simp)
  have a1 : w1.cell? ⟨w.heap.size, 1, none⟩ = some (.int .i64 bd) := kc hb (by go_simp)
  clear hb
  go_wp2_with fail
  refine (toConstraint_any _ _ _ _ c l _ hn (hr.later HB1.out)).mono ?_
  rintro e w2 ⟨G2, rfl, hG2, ho2, hb⟩
  have HB2 := Lib.hid (bl_trans HB1.out hb)
  replace a0 := kc hb a0
  replace a1 := kc hb a1
  clear hb  HB1 hG2
  have oc := Lib.hid (OwnT.rdAt ho2)
  clear ho2
  go_wp2_with fail
  refine (toIntS_any _ _ _ v _ hnv (hrv.later HB2.out)).mono ?_
  rintro e w3 ⟨G3, rfl, hG3, ho3, hb⟩
  have oc1 := Lib.hid (Rd.later oc.out hb)
  have HB3 := Lib.hid (bl_trans HB2.out hb)
  replace a0 := kc hb a0
  replace a1 := kc hb a1
  clear hb  HB2 hG3 oc
  have z3 : w.heap.size < w3.heap.size := World.block_lt_of_cell? w3 _ a0
  go_wp2_with fail
  refine (HS.out _ _ _ _ _ oc1.out (OwnI.rdAt ho3)).mono ?_
  rintro e w4 ⟨Aw, capw, rfl, hfw, hb⟩
  have hfw2 := FrI.two hfw
  have HB4 := Lib.hid (bl_trans HB3.out hb)
  replace a0 := kc hb a0
  replace a1 := kc hb a1
  clear hb  HB3 ho3 oc1 hfw HS
  have FW_0 := Lib.hid hfw2
  clear hfw2
  have z4 : w.heap.size < w4.heap.size := World.block_lt_of_cell? w4 _ a0
  go_wp2_with fail
  refine (toConstraint_any _ _ _ _ c l _ hn (hr.later HB4.out)).mono ?_
  rintro e w5 ⟨G5, rfl, hG5, ho5, hb⟩
  have q45 : w4.heap.size ≤ w5.heap.size := hb.size
  have hfx : Fr2 w5 w4.heap.size w5.heap.size (some ⟨G5, 0, none⟩) n c l := Frs.two (.inr ⟨G5, rfl, hG5, ho5.u⟩)
  have HB5 := Lib.hid (bl_trans HB4.out hb)
  have FW_1 := Lib.hid (FW_0.out.below hb)
  replace a0 := kc hb a0
  replace a1 := kc hb a1
  clear hb FW_0 HB4 hG5 ho5
  have FX_0 := Lib.hid hfx
  clear hfx
  have z5 : w.heap.size < w5.heap.size := World.block_lt_of_cell? w5 _ a0
  go_wp2_with fail
  have x0 : (w5.alloc (.cells #[.slice (some ⟨G5, 0, none⟩) n n, .int .i64 bd] 41)).cell? ⟨w5.heap.size, 0, none⟩ = some (.slice (some ⟨G5, 0, none⟩) n n) := by go_simp
  have x1 : (w5.alloc (.cells #[.slice (some ⟨G5, 0, none⟩) n n, .int .i64 bd] 41)).cell? ⟨w5.heap.size, 1, none⟩ = some (.int .i64 bd) := by go_simp
  have sz5 : (w5.alloc (.cells #[.slice (some ⟨G5, 0, none⟩) n n, .int .i64 bd] 41)).heap.size = w5.heap.size + 1 := by simp
  have hb := bl_alloc (Below.refl w5.heap.size w5) (.cells #[.slice (some ⟨G5, 0, none⟩) n n, .int .i64 bd] 41)
  have HB6 := Lib.hid (bl_trans HB5.out hb)
  have FW_2 := Lib.hid (FW_1.out.below hb)
  have FX_1 := Lib.hid (FX_0.out.below hb)
  replace a0 := kc hb a0
  replace a1 := kc hb a1
  clear hb FW_1 FX_0 HB5 
  generalize w5.alloc (.cells #[.slice (some ⟨G5, 0, none⟩) n n, .int .i64 bd] 41) = w5' at *
  have q5' : w5.heap.size < w5'.heap.size := by omega
  clear sz5
  refine (toIntS_any _ _ _ v _ hnv (hrv.later HB6.out)).mono ?_
  rintro e w6 ⟨G6, rfl, hG6, ho6, hb⟩
  have hfy : FI2 w6 w5'.heap.size w6.heap.size 3 (some ⟨G6, 0, none⟩) nv v := FrI.two (.inr ⟨G6, rfl, hG6, ho6.toV⟩)
  have HB7 := Lib.hid (bl_trans HB6.out hb)
  have FW_3 := Lib.hid (FW_2.out.below hb)
  have FX_2 := Lib.hid (FX_1.out.below hb)
  replace a0 := kc hb a0
  replace a1 := kc hb a1
  replace x0 := kc hb x0
  replace x1 := kc hb x1
  clear hb FW_2 FX_1 HB6 hG6 ho6
  have FY_0 := Lib.hid hfy
  clear hfy
  have z6 : w.heap.size < w6.heap.size := World.block_lt_of_cell? w6 _ a0
  have z6' : w5.heap.size < w6.heap.size := World.block_lt_of_cell? w6 _ x0
  go_wp2_with fail
  refine (HI.out _ _ _ _ _ FX_2.out.rdAt FY_0.out.rdAt).mono ?_
  rintro e w7 ⟨Ag, capg, rfl, hfg, hb⟩
  have hfg2 := FrI.two hfg
  have HB8 := Lib.hid (bl_trans HB7.out hb)
  have FW_4 := Lib.hid (FW_3.out.below hb)
  have FX_3 := Lib.hid (FX_2.out.below hb)
  have FY_1 := Lib.hid (FY_0.out.below hb)
  replace a0 := kc hb a0
  replace a1 := kc hb a1
  replace x0 := kc hb x0
  replace x1 := kc hb x1
  clear hb FW_3 FX_2 FY_0 HB7 hfg
  have FG_0 := Lib.hid hfg2
  clear hfg2
  have z7 : w.heap.size < w7.heap.size := World.block_lt_of_cell? w7 _ a0
  have z7' : w5.heap.size < w7.heap.size := World.block_lt_of_cell? w7 _ x0
  go_wp2_with fail
  refine (eqIntS_refl _ _ _ _ _ (gI L) _ hN FG_0.out.rdAt FW_4.out.rdAt).mono ?_
  rintro e w8 ⟨rfl, hb⟩
  have HB9 := Lib.hid (bl_trans HB8.out hb)
  have FW_5 := Lib.hid (FW_4.out.below hb)
  have FX_4 := Lib.hid (FX_3.out.below hb)
  have FY_2 := Lib.hid (FY_1.out.below hb)
  have FG_1 := Lib.hid (FG_0.out.below hb)
  replace a0 := kc hb a0
  replace a1 := kc hb a1
  replace x0 := kc hb x0
  replace x1 := kc hb x1
  clear hb FW_4 FX_3 FY_1 FG_0 HB8 
  have z8 : w.heap.size < w8.heap.size := World.block_lt_of_cell? w8 _ a0
  have z8' : w5.heap.size < w8.heap.size := World.block_lt_of_cell? w8 _ x0
  go_wp2_with fail
  go_region_held3 (fun w' => w'.cell? ⟨w.heap.size, 0, none⟩ = some (.slice A n cap) ∧ w'.cell? ⟨w.heap.size, 1, none⟩ = some (.int .i64 bd) ∧ w'.cell? ⟨w5.heap.size, 0, none⟩ = some (.slice (some ⟨G5, 0, none⟩) n n) ∧ w'.cell? ⟨w5.heap.size, 1, none⟩ = some (.int .i64 bd)) (go_keep)
    (first
      | (go_at_call 23; refine (toConstraint_any _ _ _ _ c l _ hn (hr.later HB9.out.drew)).mono ?_; rintro e w9 ⟨G9, rfl, hG9, ho9, hb⟩; have HBr := Lib.hid (bl_trans HB9.out.drew hb); have FW_r := Lib.hid (FI2.below (w := w8.drew) FW_5.out hb); have FX_r := Lib.hid (Fr2.below (w := w8.drew) FX_4.out hb); have FY_r := Lib.hid (FI2.below (w := w8.drew) FY_2.out hb); have FG_r := Lib.hid (FI2.below (w := w8.drew) FG_1.out hb); replace a0 := kc hb a0; replace a1 := kc hb a1; replace x0 := kc hb x0; replace x1 := kc hb x1; clear hb)
      | (go_at_call 25; refine (eqConstraint_same _ _ _ _ _ _ _ c l c l _ hn FX_r.out.rdAt ho9.rdAt).mono ?_; rintro e w10 ⟨rfl, hb⟩; have HB10 := Lib.hid (bl_trans HBr.out hb); have FW_s := Lib.hid (FW_r.out.below hb); have FX_s := Lib.hid (FX_r.out.below hb); have FY_s := Lib.hid (FY_r.out.below hb); have FG_s := Lib.hid (FG_r.out.below hb); replace a0 := kc hb a0; replace a1 := kc hb a1; replace x0 := kc hb x0; replace x1 := kc hb x1; clear hb; rw [ceq_refl]))
  clear FW_5 FW_r FX_4 FX_r FY_2 FY_r FG_1 FG_r HB9 HBr hG9 ho9
  have FW_100 := Lib.hid FW_s.out
  have FX_100 := Lib.hid FX_s.out
  have FY_100 := Lib.hid FY_s.out
  have FG_100 := Lib.hid FG_s.out
  clear FW_s FX_s FY_s FG_s
  go_wp2_with fail
  refine (toIntS_any _ _ _ v _ hnv (hrv.later HB10.out)).mono ?_
  rintro e w11 ⟨G11, rfl, hG11, ho11, hb⟩
  have HB11 := Lib.hid (bl_trans HB10.out hb)
  have FW_101 := Lib.hid (FW_100.out.below hb)
  have FX_101 := Lib.hid (FX_100.out.below hb)
  have FY_101 := Lib.hid (FY_100.out.below hb)
  have FG_101 := Lib.hid (FG_100.out.below hb)
  replace a0 := kc hb a0
  replace a1 := kc hb a1
  replace x0 := kc hb x0
  replace x1 := kc hb x1
  clear hb FW_100 FX_100 FY_100 FG_100 HB10 hG11
  go_wp2_with fail
  refine (eqIntS_refl _ _ _ _ _ v _ hnv FY_101.out.rdAt ho11.rdAt).mono ?_
  rintro e w12 ⟨rfl, hb⟩
  have HB12 := Lib.hid (bl_trans HB11.out hb)
  have FW_102 := Lib.hid (FW_101.out.below hb)
  have FX_102 := Lib.hid (FX_101.out.below hb)
  have FY_102 := Lib.hid (FY_101.out.below hb)
  have FG_102 := Lib.hid (FG_101.out.below hb)
  replace a0 := kc hb a0
  replace a1 := kc hb a1
  replace x0 := kc hb x0
  replace x1 := kc hb x1
  clear hb FW_101 FX_101 FY_101 FG_101 HB11 ho11
  go_wp2_with fail
  refine (markConstraint_any _ _ _ _ _ c l 1 _ hn (by omega) (by omega) FX_102.out.one).mono ?_
  rintro e w13 ⟨rfl, hfx, ho⟩
  clear hfx
  have HB13 := Lib.hid (ho.bel FX_102.out HB12.out (by omega))
  have FW_103 := Lib.hid (FW_102.out.only ho (FX_102.out.apart (.inr (by omega))))
  have FY_103 := Lib.hid (FY_102.out.only ho (FX_102.out.apart (.inl (by omega))))
  have FG_103 := Lib.hid (FG_102.out.only ho (FX_102.out.apart (.inl (by omega))))
  replace a0 := FX_102.out.cell ho (.inl (by show w.heap.size < _; omega)) a0
  replace a1 := FX_102.out.cell ho (.inl (by show w.heap.size < _; omega)) a1
  replace x0 := FX_102.out.cell ho (.inr (by show _ ≤ w5.heap.size; omega)) x0
  replace x1 := FX_102.out.cell ho (.inr (by show _ ≤ w5.heap.size; omega)) x1
  clear ho FW_102 FY_102 FG_102 FX_102 HB12
  clear x0 x1
  go_wp2_with fail
  refine (markIntS_any _ _ _ _ v (1 + 2 * (n : Int)) _ hnv (by omega) (by omega) FY_103.out.one).mono ?_
  rintro e w14 ⟨rfl, hfy, ho⟩
  clear hfy
  have HB14 := Lib.hid (ho.belI FY_103.out HB13.out (by omega))
  have FW_104 := Lib.hid (FW_103.out.only ho (FY_103.out.apart (.inr (by omega))))
  have FG_104 := Lib.hid (FG_103.out.only ho (FY_103.out.apart (.inl (by omega))))
  replace a0 := FY_103.out.cell ho (.inl (by show w.heap.size < _; omega)) a0
  replace a1 := FY_103.out.cell ho (.inl (by show w.heap.size < _; omega)) a1
  clear ho FW_103 FG_103 FY_103 HB13
  have hk1 : ¬ ((1 : Int) + 2 * (n : Int) + (nv : Int) < 0) := by omega
  go_wp2_with fail
  refine (eqIntS_refl _ _ _ _ _ (gI L) _ hN FG_104.out.rdAt FW_104.out.rdAt).mono ?_
  rintro e w15 ⟨rfl, hb⟩
  have HB15 := Lib.hid (bl_trans HB14.out hb)
  have FW_105 := Lib.hid (FW_104.out.below hb)
  have FG_105 := Lib.hid (FG_104.out.below hb)
  replace a0 := kc hb a0
  replace a1 := kc hb a1
  clear hb FW_104 FG_104 HB14 hk1
  go_wp2_with fail
  refine (markIntS_any _ _ _ _ (gI L) 1 _ hN (by omega) (by omega) FG_105.out.one).mono ?_
  rintro e w16 ⟨rfl, hfg, ho⟩
  have HB16 := Lib.hid (ho.belI FG_105.out HB15.out (by omega))
  have FW_106 := Lib.hid (FW_105.out.only ho (FG_105.out.apart (.inr (by omega))))
  replace a0 := FG_105.out.cell ho (.inl (by show w.heap.size < _; omega)) a0
  replace a1 := FG_105.out.cell ho (.inl (by show w.heap.size < _; omega)) a1
  have FM_0 := Lib.hid hfg
  clear ho hfg FW_105 FG_105 HB15
  go_wp2_with fail
  refine (heldIntS_any _ _ _ _ 1 _ hN (by omega) (by omega) FM_0.out).mono ?_
  rintro e w17 ⟨rfl, hw17⟩
  subst hw17
  have hk1 : ¬ ((1 : Int) + (L.length : Int) < 0) := by omega
  go_wp2_with fail
  refine (toConstraint_any _ _ _ _ c l _ hn (hr.later HB16.out)).mono ?_
  rintro e w18 ⟨G18, rfl, hG18, ho18, hb⟩
  have HB17 := Lib.hid (bl_trans HB16.out hb)
  have FW_107 := Lib.hid (FW_106.out.below hb)
  have FM_1 := Lib.hid (FM_0.out.below hb)
  replace a0 := kc hb a0
  replace a1 := kc hb a1
  clear hb FW_106 FM_0 HB16 hG18 a0 a1
  have oc := Lib.hid (OwnT.rdAt ho18)
  clear ho18
  go_wp2_with fail
  refine (toIntS_any _ _ _ v _ hnv (hrv.later HB17.out)).mono ?_
  rintro e w19 ⟨G19, rfl, hG19, ho19, hb⟩
  have oc1 := Lib.hid (Rd.later oc.out hb)
  have HB18 := Lib.hid (bl_trans HB17.out hb)
  have FW_108 := Lib.hid (FW_107.out.below hb)
  have FM_2 := Lib.hid (FM_1.out.below hb)
  clear hb FW_107 FM_1 HB17 hG19 oc
  go_wp2_with fail
  refine (HI.out _ _ _ _ _ oc1.out (OwnI.rdAt ho19)).mono ?_
  rintro e w20 ⟨Ah, caph, rfl, hfh, hb⟩
  have HB19 := Lib.hid (bl_trans HB18.out hb)
  have FW_109 := Lib.hid (FW_108.out.below hb)
  have FM_3 := Lib.hid (FM_2.out.below hb)
  clear hb FW_108 FM_2 HB18 oc1 ho19 HI
  go_wp2_with fail
  refine (eqIntS_refl _ _ _ _ _ (gI L) _ hN hfh.rdAt FW_109.out.rdAt).mono ?_
  rintro e w21 ⟨rfl, hb⟩
  have HB20 := Lib.hid (bl_trans HB19.out hb)
  have FW_110 := Lib.hid (FW_109.out.below hb)
  have FM_4 := Lib.hid (FM_3.out.below hb)
  clear hb FW_109 FM_3 HB19 hfh
  go_wp2_with fail
  refine (heldIntS_any _ _ _ _ 1 _ hN (by omega) (by omega) FM_4.out).mono ?_
  rintro e w22 ⟨rfl, hw22⟩
  subst hw22
  go_wp2
  go_ret
  exact ⟨rfl, HB20.out⟩

theorem lawImpliedLiterals_walk (A : Option Addr) (n cap : Nat) (bd : Int) (c l : Nat → Int) (Av : Option Addr) (nv capv : Nat) (v : Nat → Int) (w : World) (hm : n ≤ maxLen) (hr : Rd w w.heap.size A n c l) (_hmv : nv ≤ maxLen) (hrv : RdI w w.heap.size Av nv v) :
    Calls Try.prog 6 #[.agg #[.slice A n cap, .int .i64 bd], .slice Av nv capv] w fun e w' => e = .returned (.bool true) ∧ Below w.heap.size w w' := by
  by_cases h : nv ≤ 1048576
  · by_cases h' : n ≤ 1048576
    · exact lawImp_ok A Av n cap nv capv bd c l v (impL n c l bd nv v) w h' h (Nat.le_trans impL_le h') hr hrv (fun A cap Av capv W hr hrv => specImp_any A Av n cap nv capv bd c l v W h' h hr hrv) (fun A cap Av capv W hr hrv => implImp_any A Av n cap nv capv bd c l v W h' h hr hrv)
    · exact lawImp_no2 A Av n cap nv capv bd w h (by omega) hm
  · exact lawImp_no1 A Av n cap nv capv bd w (by omega)
end Go.Proofs.Ytgfofdcggbkeeaa
