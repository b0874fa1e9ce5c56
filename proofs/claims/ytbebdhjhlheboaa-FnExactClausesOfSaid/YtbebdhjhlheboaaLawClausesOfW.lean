/- The walk of the exact law of ClausesOf (no claim of its own). Conditions: as each theorem states. -/
import Derived.Test.YtbebdhjhlheboaaCofC
import Derived.Test.YtbebdhjhlheboaaMkCs
import Derived.Test.YtbebdhjhlheboaaMarkB
import Derived.Deep.RegionHeld3
namespace Go.Proofs.Ytbebdhjhlheboaa
open Go.ChangeShapes Go.WideShapes Go.ChangeAt Go.RowKit

section
variable {w w' : World} {lo hi n : Nat} {A : Option Addr} {c l : Nat → Int}
theorem onlyR_terms (h : Fr2 w lo hi A n c l) (ho : Only w w' A n) : OnlyR lo hi w w' :=
  ⟨ho.os, ho.tape, ho.output, ho.size, fun k hk hr => ho.block k hk (by
    rcases h with e | ⟨G, e, h1, h2, _⟩
    · exact .inl e
    · exact .inr fun a ha hh => by
        rw [e] at ha
        cases ha
        have : k = G := hh
        omega)⟩
theorem onlyR_cell (ho : OnlyR lo hi w w') {b o : Nat} {v : Value} (hb : b < lo ∨ hi ≤ b) (hc : w.cell? ⟨b, o, none⟩ = some v) : w'.cell? ⟨b, o, none⟩ = some v := by
  have hlt := World.block_lt_of_cell? w ⟨b, o, none⟩ hc
  have e := ho.block b hlt (by omega)
  rw [← hc]
  simp [World.cell?, e]
end

set_option linter.unusedVariables false in
set_option maxRecDepth 100000 in
set_option maxHeartbeats 6400000 in
theorem lawClausesOf_ok (A : Option Addr) (n cap : Nat) (bd : Int) (c l : Nat → Int) (w : World) (hn : n ≤ 1048576) (hr : Rd w w.heap.size A n c l) :
    Calls Try.prog 7 #[.agg #[.slice A n cap, .int .i64 bd]] w fun e w' => e = .returned (.bool true) ∧ Below w.heap.size w w' := by
  have hni : (n : Int) ≤ 1048576 := by omega
  go_enter Try.func7, Try.ntmps7
  go_wp2_with fail
  refine (szConstraint_ok _ _ _ _ _ _ (by omega) (by omega) hni).mono ?_
  rintro e w1 ⟨rfl, hb⟩
  have a0 : w1.cell? ⟨w.heap.size, 0, none⟩ = some (.slice A n cap) := kc hb (by go_simp)
  have a1 : w1.cell? ⟨w.heap.size, 1, none⟩ = some (.int .i64 bd) := kc hb (by go_simp)
  have HB1 := Lib.hid (bl_trans (bl_alloc (Below.refl w.heap.size w) _) hb)
  have hz : w.heap.size < w1.heap.size := World.block_lt_of_cell? w1 _ a0
  clear hb
  go_wp2_with fail
  refine (toConstraint_any _ _ _ _ c l _ hn (hr.later HB1.out)).mono ?_
  rintro e w2 ⟨G2, rfl, hG2, hown2, hb⟩
  have HB2 := Lib.hid (bl_trans HB1.out hb)
  have q2 := hb.size
  replace a0 := kc hb a0
  replace a1 := kc hb a1
  clear hb  HB1
  have R2 := Lib.hid hown2.rdAt
  clear hG2 hown2
  go_wp2_with fail
  refine (specCof_any _ _ _ bd c l _ hn R2.out).mono ?_
  rintro e w3 ⟨Aw, capw, rfl, hfw, hb⟩
  have HB3 := Lib.hid (bl_trans HB2.out hb)
  have q3 := hb.size
  have FW_0 := Lib.hid (FrC.two hfw)
  replace a0 := kc hb a0
  replace a1 := kc hb a1
  clear hb  HB2
  clear hfw R2
  go_wp2_with fail
  refine (toConstraint_any _ _ _ _ c l _ hn (hr.later HB3.out)).mono ?_
  rintro e w4 ⟨G4, rfl, hG4, hown4, hb⟩
  have HB4 := Lib.hid (bl_trans HB3.out hb)
  have q4 := hb.size
  have FW_1 := Lib.hid (FW_0.out.below hb)
  have FX_0 := Lib.hid (Frs.two (lo := w3.heap.size) (.inr ⟨G4, rfl, hG4, hown4.u⟩))
  replace a0 := kc hb a0
  replace a1 := kc hb a1
  clear hb FW_0 HB3
  clear hG4 hown4
  go_wp2_with fail
  have v0 : (w4.alloc (.cells #[.slice (some ⟨G4, 0, none⟩) n n, .int .i64 bd] 55)).cell? ⟨w4.heap.size, 0, none⟩ = some (.slice (some ⟨G4, 0, none⟩) n n) := by go_simp
  have v1 : (w4.alloc (.cells #[.slice (some ⟨G4, 0, none⟩) n n, .int .i64 bd] 55)).cell? ⟨w4.heap.size, 1, none⟩ = some (.int .i64 bd) := by go_simp
  refine (implCof_any _ _ _ bd c l _ hn (FX_0.out.rdAt.later (bl_alloc (Below.refl _ _) _))).mono ?_
  rintro e w5 ⟨Ag, capg, rfl, hfg, hb1⟩
  have hb := bl_trans (bl_alloc (Below.refl w4.heap.size w4) _) hb1
  replace v0 := kc hb1 v0
  replace v1 := kc hb1 v1
  clear hb1
  have HB5 := Lib.hid (bl_trans HB4.out hb)
  have q5 := hb.size
  have FW_2 := Lib.hid (FW_1.out.below hb)
  have FX_1 := Lib.hid (FX_0.out.below hb)
  have FG_0 := Lib.hid (FrC.two (lo := w4.heap.size + 1) (hfg.more (by simp)))
  replace a0 := kc hb a0
  replace a1 := kc hb a1
  clear hb FW_1 FX_0 HB4
  clear hfg
  have z4 : w4.heap.size < w5.heap.size := World.block_lt_of_cell? w5 _ v0
  have z5 : w.heap.size < w5.heap.size := World.block_lt_of_cell? w5 _ a0
  have hN : cfCnt n c l bd ≤ 1048576 := Nat.le_trans (cfCnt_le _ _ _ _) (by omega)
  have HNr := Lib.hid (cf_all n c l bd)
  have hT := cf_tot n c l bd
  obtain ⟨NN, hNN⟩ : ∃ NN, cfCnt n c l bd = NN := ⟨_, rfl⟩
  obtain ⟨OK, hOK⟩ : ∃ OK, cfOk n c l bd = OK := ⟨_, rfl⟩
  have HNN := Lib.hid hNN
  have HOK := Lib.hid hOK
  rw [hNN] at hN hT HNr FG_0 FW_2
  rw [hNN, hOK]
  clear hNN hOK
  go_wp2_with fail
  refine (eqConstraintS_refl _ _ _ _ _ (cfK n c l bd) _ hN HNr.out FG_0.out.rdAt FW_2.out.rdAt).mono ?_
  rintro e w6 ⟨rfl, hb⟩
  have HB6 := Lib.hid (bl_trans HB5.out hb)
  have q6 := hb.size
  have FW_3 := Lib.hid (FW_2.out.below hb)
  have FX_2 := Lib.hid (FX_1.out.below hb)
  have FG_1 := Lib.hid (FG_0.out.below hb)
  replace a0 := kc hb a0
  replace a1 := kc hb a1
  replace v0 := kc hb v0
  replace v1 := kc hb v1
  clear hb FW_2 FX_1 FG_0 HB5
  go_wp2_with fail
  have z6 : w4.heap.size < w6.heap.size := World.block_lt_of_cell? w6 _ v0
  have z7 : w.heap.size < w6.heap.size := World.block_lt_of_cell? w6 _ a0
  go_region_held3 (fun w' => w'.cell? ⟨w.heap.size, 0, none⟩ = some (.slice A n cap) ∧ w'.cell? ⟨w.heap.size, 1, none⟩ = some (.int .i64 bd) ∧ w'.cell? ⟨w4.heap.size, 0, none⟩ = some (.slice (some ⟨G4, 0, none⟩) n n) ∧ w'.cell? ⟨w4.heap.size, 1, none⟩ = some (.int .i64 bd)) (go_keep)
    (first
      | (go_at_call 31; refine (toConstraint_any _ _ _ _ c l _ hn (hr.later HB6.out.drew)).mono ?_; rintro e u7 ⟨G7, rfl, hG7, hown7, hb⟩; have HBu7 := Lib.hid (bl_trans HB6.out.drew hb); have FWa := Lib.hid (FW_3.out.below (bl_trans (Below.refl w6.heap.size w6).drew hb)); have FXa := Lib.hid (FX_2.out.below (bl_trans (Below.refl w6.heap.size w6).drew hb)); have FGa := Lib.hid (FG_1.out.below (bl_trans (Below.refl w6.heap.size w6).drew hb)); replace a0 := kc hb a0; replace a1 := kc hb a1; replace v0 := kc hb v0; replace v1 := kc hb v1; clear hb)
      | (go_at_call 33; refine (eqConstraint_same _ _ _ _ _ _ _ c l c l _ hn FXa.out.rdAt hown7.rdAt).mono ?_; rintro e u8 ⟨rfl, hb⟩; have HBu8 := Lib.hid (bl_trans HBu7.out hb); have FWb := Lib.hid (FWa.out.below hb); have FXb := Lib.hid (FXa.out.below hb); have FGb := Lib.hid (FGa.out.below hb); replace a0 := kc hb a0; replace a1 := kc hb a1; replace v0 := kc hb v0; replace v1 := kc hb v1; clear hb; rw [ceq_refl]))
  have HB8 := HBu8
  have FW_9 := FWb
  have FX_9 := FXb
  have FG_9 := FGb
  clear FW_3 FX_2 FG_1 FWa FWb FXa FXb FGa FGb HB6 HBu7 HBu8 hG7 hown7
  have z8 : w4.heap.size < u8.heap.size := World.block_lt_of_cell? u8 _ v0
  have z9 : w.heap.size < u8.heap.size := World.block_lt_of_cell? u8 _ a0
  go_wp2_with fail
  refine (markConstraint_any _ _ _ _ _ c l 1 _ hn (by omega) (by omega) FX_9.out.one).mono ?_
  rintro e w9 ⟨rfl, hfm, ho⟩
  have hor := onlyR_terms FX_9.out ho
  have HB9 := Lib.hid (hor.below HB8.out (by omega))
  have q9 := hor.size
  have FW_10 := Lib.hid (FW_9.out.onlyR hor (.inl (by omega)))
  have FG_10 := Lib.hid (FG_9.out.onlyR hor (.inr (by omega)))
  replace a0 := onlyR_cell hor (.inl (by omega)) a0
  replace a1 := onlyR_cell hor (.inl (by omega)) a1
  clear hor ho hfm HB8 v0 v1 FX_9 FW_9 FG_9
  have hk1 : ¬ ((1 : Int) + 2 * (n : Int) < 0) := by omega
  go_wp2_with fail
  refine (eqConstraintS_refl _ _ _ _ _ (cfK n c l bd) _ hN HNr.out FG_10.out.rdAt FW_10.out.rdAt).mono ?_
  rintro e w10 ⟨rfl, hb⟩
  have HB10 := Lib.hid (bl_trans HB9.out hb)
  have q10 := hb.size
  have FW_11 := Lib.hid (FW_10.out.below hb)
  have FG_11 := Lib.hid (FG_10.out.below hb)
  replace a0 := kc hb a0
  replace a1 := kc hb a1
  clear hb FW_10 FG_10 HB9
  clear hk1
  go_wp2_with fail
  refine (markConstraintS_fc _ _ _ _ _ (cfK n c l bd) 1 _ hT (by omega) (by omega) FG_11.out).mono ?_
  rintro e w11 ⟨rfl, hfm, hor⟩
  have HB11 := Lib.hid (hor.below HB10.out (by omega))
  have q11 := hor.size
  have FW_12 := Lib.hid (FW_11.out.onlyR hor (.inl (by omega)))
  have FM_0 := Lib.hid hfm
  replace a0 := onlyR_cell hor (.inl (by omega)) a0
  replace a1 := onlyR_cell hor (.inl (by omega)) a1
  clear hor hfm HB10 FW_11 FG_11
  have hk2 : ¬ ((1 : Int) + 2 * (tot (cfK n c l bd) NN : Int) + ((NN : Nat) : Int) < 0) := by omega
  go_wp2_with fail
  refine (heldConstraintS_fc _ _ _ _ _ (cfK n c l bd) 1 _ hT (by omega) (by omega) FM_0.out).mono ?_
  rintro e w12 ⟨rfl, hb⟩
  have HB12 := Lib.hid (bl_trans HB11.out hb)
  have q12 := hb.size
  have FW_13 := Lib.hid (FW_12.out.below hb)
  have FM_1 := Lib.hid (FM_0.out.below hb)
  replace a0 := kc hb a0
  replace a1 := kc hb a1
  clear hb FW_12 FM_0 HB11
  go_wp2_with fail
  refine (toConstraint_any _ _ _ _ c l _ hn (hr.later HB12.out)).mono ?_
  rintro e w13 ⟨G13, rfl, hG13, hown13, hb⟩
  have HB13 := Lib.hid (bl_trans HB12.out hb)
  have q13 := hb.size
  have FW_14 := Lib.hid (FW_13.out.below hb)
  have FM_2 := Lib.hid (FM_1.out.below hb)
  replace a0 := kc hb a0
  replace a1 := kc hb a1
  clear hb FW_13 FM_1 HB12
  have R13 := Lib.hid hown13.rdAt
  clear hG13 hown13
  go_wp2_with fail
  refine (implCof_any _ _ _ bd c l _ hn R13.out).mono ?_
  rintro e w14 ⟨Ah, caph, rfl, hfh, hb⟩
  have HB14 := Lib.hid (bl_trans HB13.out hb)
  have q14 := hb.size
  have FW_15 := Lib.hid (FW_14.out.below hb)
  have FM_3 := Lib.hid (FM_2.out.below hb)
  have FH_0 := Lib.hid (FrC.two hfh)
  replace a0 := kc hb a0
  replace a1 := kc hb a1
  clear hb FW_14 FM_2 HB13
  clear hfh R13
  rw [HNN.out, HOK.out]
  rw [HNN.out] at FH_0
  go_wp2_with fail
  refine (eqConstraintS_refl _ _ _ _ _ (cfK n c l bd) _ hN HNr.out FH_0.out.rdAt FW_15.out.rdAt).mono ?_
  rintro e w15 ⟨rfl, hb⟩
  have HB15 := Lib.hid (bl_trans HB14.out hb)
  have q15 := hb.size
  have FM_4 := Lib.hid (FM_3.out.below hb)
  replace a0 := kc hb a0
  replace a1 := kc hb a1
  clear hb FW_15 FM_3 FH_0 HB14
  go_wp2_with fail
  refine (heldConstraintS_fc _ _ _ _ _ (cfK n c l bd) 1 _ hT (by omega) (by omega) FM_4.out).mono ?_
  rintro e w16 ⟨rfl, hb⟩
  have HB16 := Lib.hid (bl_trans HB15.out hb)
  have q16 := hb.size
  have FM_5 := Lib.hid (FM_4.out.below hb)
  replace a0 := kc hb a0
  replace a1 := kc hb a1
  clear hb FM_4 HB15
  go_wp2
  go_ret
  exact ⟨rfl, HB16.out⟩

set_option maxRecDepth 100000 in
set_option maxHeartbeats 1600000 in
theorem lawClausesOf_walk (A : Option Addr) (n cap : Nat) (bd : Int) (c l : Nat → Int) (w : World) (hm : n ≤ maxLen) (hr : Rd w w.heap.size A n c l) :
    Calls Try.prog 7 #[.agg #[.slice A n cap, .int .i64 bd]] w fun e w' => e = .returned (.bool true) ∧ Below w.heap.size w w' := by
  by_cases h : n ≤ 1048576
  · exact lawClausesOf_ok A n cap bd c l w h hr
  · have hn : 1048576 < n := by omega
    clear h
    go_enter Try.func7, Try.ntmps7
    go_wp2_with (go_at_call 29; refine (szConstraint_no _ _ _ _ _ _ (by omega) (by omega) (by omega) hm).mono ?_; rintro e w' ⟨rfl, hb⟩; have HB := Lib.hid (bl_trans (bl_alloc (Below.refl w.heap.size w) _) hb); clear hb)
    go_ret
    exact ⟨rfl, HB.out⟩
end Go.Proofs.Ytbebdhjhlheboaa
