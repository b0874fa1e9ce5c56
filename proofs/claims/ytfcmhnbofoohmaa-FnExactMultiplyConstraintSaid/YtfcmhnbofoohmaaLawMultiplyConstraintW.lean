/- The walk of the exact law of MultiplyConstraint (no claim of its own). Conditions: as each theorem states. -/
import Derived.Test.YtfcmhnbofoohmaaScaB
import Derived.Test.YtfcmhnbofoohmaaComB
import Derived.Deep.RegionHeld3
namespace Go.Proofs.Ytfcmhnbofoohmaa
open Go.ChangeShapes Go.WideShapes Go.ChangeAt Go.RowKit

set_option maxRecDepth 100000 in
set_option maxHeartbeats 1600000 in
theorem lawMultiplyConstraint_no (kk : Int) (A : Option Addr) (n cap : Nat) (bd : Int) (w : World) (hn : 1048576 < n) (hm : n ≤ maxLen) :
    Calls Try.prog 5 #[.agg #[.slice A n cap, .int .i64 bd], .int .i64 kk] w fun e w' => e = .returned (.bool true) ∧ Below w.heap.size w w' := by
  go_enter Try.func5, Try.ntmps5
  go_wp2_with (go_at_call 16; refine (szConstraint_no _ _ _ _ _ _ (by omega) (by omega) (by omega) hm).mono ?_; rintro e w' ⟨rfl, hb⟩; have HB := Lib.hid (bl_trans (bl_alloc (Below.refl w.heap.size w) _) hb); clear hb)
  go_ret
  exact ⟨rfl, HB.out⟩

set_option maxRecDepth 100000 in
set_option maxHeartbeats 6400000 in
theorem lawMultiplyConstraint_ok (kk : Int) (A : Option Addr) (n cap : Nat) (bd : Int) (c l : Nat → Int) (N : Nat) (C L : Nat → Int) (BD : Int) (OK : Bool) (w : World) (hn : n ≤ 1048576) (hN : N ≤ 1048576) (hr : Rd w w.heap.size A n c l)
    (hS : ∀ A cap W, Rd W W.heap.size A n c l → Calls Try.prog 20 #[.agg #[.slice A n cap, .int .i64 bd], .int .i64 kk] W (CRes W N C L BD OK))
    (hI : ∀ A cap W, Rd W W.heap.size A n c l → Calls Try.prog 21 #[.agg #[.slice A n cap, .int .i64 bd], .int .i64 kk] W (CRes W N C L BD OK)) :
    Calls Try.prog 5 #[.agg #[.slice A n cap, .int .i64 bd], .int .i64 kk] w fun e w' => e = .returned (.bool true) ∧ Below w.heap.size w w' := by
  have hni : (n : Int) ≤ 1048576 := by omega
  have HS := Lib.hid hS
  have HI := Lib.hid hI
  clear hS hI
  go_enter Try.func5, Try.ntmps5
  go_wp2_with fail
  refine (szConstraint_ok _ _ _ _ _ _ (by omega) (by omega) hni).mono ?_
  rintro e w1 ⟨rfl, hb⟩
  have HB1 := Lib.hid (bl_trans (bl_alloc (Below.refl w.heap.size w) _) hb)
  have a0 : w1.cell? ⟨w.heap.size, 0, none⟩ = some (.slice A n cap) := kc hb (by go_simp)
  have a1 : w1.cell? ⟨w.heap.size, 1, none⟩ = some (.int .i64 bd) := kc hb (by go_simp)
  clear hb
  go_wp2_with fail
  refine (toConstraint_any _ _ _ _ c l _ hn (hr.later HB1.out)).mono ?_
  rintro e w2 ⟨G2, rfl, hG2, hown2, hb⟩
  have HB2 := Lib.hid (bl_trans HB1.out hb)
  replace a0 := kc hb a0
  replace a1 := kc hb a1
  have z2 : w.heap.size < w2.heap.size := World.block_lt_of_cell? w2 _ a0
  clear hb HB1 hG2
  go_wp2_with fail
  refine (HS.out _ _ _ hown2.rdAt).mono ?_
  rintro e w3 ⟨Aw, capw, rfl, hfw, hb⟩
  have HB3 := Lib.hid (bl_trans HB2.out hb)
  replace a0 := kc hb a0
  replace a1 := kc hb a1
  have FW := Lib.hid hfw.two
  have z3 : w.heap.size < w3.heap.size := World.block_lt_of_cell? w3 _ a0
  have z23 : w2.heap.size ≤ w3.heap.size := hb.size
  clear hb HB2 hown2 hfw HS
  go_wp2_with fail
  have x0 : (w3.alloc (.cells #[.slice Aw N capw, .int .i64 BD] 24)).cell? ⟨w3.heap.size, 0, none⟩ = some (.slice Aw N capw) := by go_simp
  have x1 : (w3.alloc (.cells #[.slice Aw N capw, .int .i64 BD] 24)).cell? ⟨w3.heap.size, 1, none⟩ = some (.int .i64 BD) := by go_simp
  refine (toConstraint_any _ _ _ _ c l _ hn (hr.later (bl_alloc HB3.out _))).mono ?_
  rintro e w4 ⟨G4, rfl, hG4, hown4, hb1⟩
  have hb := bl_trans (bl_alloc (Below.refl w3.heap.size w3) _) hb1
  have HB4 := Lib.hid (bl_trans HB3.out hb)
  have FX := Lib.hid (Frs.two (lo := w3.heap.size + 1) (.inr ⟨G4, rfl, by simpa using hG4, hown4.u⟩))
  have fw := FW.out.below hb
  replace a0 := kc hb a0
  replace a1 := kc hb a1
  replace x0 := kc hb1 x0
  replace x1 := kc hb1 x1
  have z4 : w3.heap.size < w4.heap.size := World.block_lt_of_cell? w4 _ x0
  have z4' : w.heap.size < w4.heap.size := by omega
  clear hb hb1 HB3 FW hG4
  have FW := Lib.hid fw
  clear fw
  go_wp2_with fail
  have y0 : (w4.alloc (.cells #[.slice (some ⟨G4, 0, none⟩) n n, .int .i64 bd] 24)).cell? ⟨w4.heap.size, 0, none⟩ = some (.slice (some ⟨G4, 0, none⟩) n n) := by go_simp
  have y1 : (w4.alloc (.cells #[.slice (some ⟨G4, 0, none⟩) n n, .int .i64 bd] 24)).cell? ⟨w4.heap.size, 1, none⟩ = some (.int .i64 bd) := by go_simp
  refine (HI.out _ _ _ (FX.out.rdAt.later (bl_alloc (Below.refl _ _) _))).mono ?_
  rintro e w5 ⟨Ag, capg, rfl, hfg, hb1⟩
  have hb := bl_trans (bl_alloc (Below.refl w4.heap.size w4) _) hb1
  have HB5 := Lib.hid (bl_trans HB4.out hb)
  have FG := Lib.hid (Fr2.one (Frs.two hfg))
  have fg : Fr2 w5 (w4.heap.size + 1) w5.heap.size Ag N C L := Frs.two (hfg.more (by simp))
  have fw := FW.out.below hb
  have fx := FX.out.below hb
  replace a0 := kc hb a0
  replace a1 := kc hb a1
  replace x0 := kc hb x0
  replace x1 := kc hb x1
  replace y0 := kc hb1 y0
  replace y1 := kc hb1 y1
  have z5 : w4.heap.size < w5.heap.size := World.block_lt_of_cell? w5 _ y0
  have z5' : w.heap.size < w5.heap.size := by omega
  have z5'' : w3.heap.size < w5.heap.size := by omega
  clear hb hb1 HB4 FW FX FG hfg hown4
  have FW := Lib.hid fw
  have FX := Lib.hid fx
  have FG := Lib.hid fg
  clear fw fx fg
  go_wp2_with fail
  have t0 : (w5.alloc (.cells #[.slice Ag N capg, .int .i64 BD] 24)).cell? ⟨w5.heap.size, 0, none⟩ = some (.slice Ag N capg) := by go_simp
  have t1 : (w5.alloc (.cells #[.slice Ag N capg, .int .i64 BD] 24)).cell? ⟨w5.heap.size, 1, none⟩ = some (.int .i64 BD) := by go_simp
  refine (eqConstraint_same _ _ _ _ _ _ _ C L C L _ hN (FG.out.rdAt.later (bl_alloc (Below.refl _ _) _)) (FW.out.rdAt.later (bl_alloc (Below.refl _ _) _))).mono ?_
  rintro e w6 ⟨rfl, hb1⟩
  have hb := bl_trans (bl_alloc (Below.refl w5.heap.size w5) _) hb1
  have HB6 := Lib.hid (bl_trans HB5.out hb)
  have fw := FW.out.below hb
  have fx := FX.out.below hb
  have fg := FG.out.below hb
  replace a0 := kc hb a0
  replace a1 := kc hb a1
  replace x0 := kc hb x0
  replace x1 := kc hb x1
  replace y0 := kc hb y0
  replace y1 := kc hb y1
  replace t0 := kc hb1 t0
  replace t1 := kc hb1 t1
  clear hb hb1 HB5 FW FX FG
  have FW := Lib.hid fw
  have FX := Lib.hid fx
  have FG := Lib.hid fg
  clear fw fx fg
  rw [ceq_refl]
  go_wp2_with fail
  go_region_held3 (fun w' => w'.cell? ⟨w.heap.size, 0, none⟩ = some (.slice A n cap) ∧ w'.cell? ⟨w.heap.size, 1, none⟩ = some (.int .i64 bd) ∧ w'.cell? ⟨w4.heap.size, 0, none⟩ = some (.slice (some ⟨G4, 0, none⟩) n n) ∧ w'.cell? ⟨w4.heap.size, 1, none⟩ = some (.int .i64 bd)) (go_keep)
    (first
      | (go_at_call 18; refine (toConstraint_any _ _ _ _ c l _ hn (hr.later HB6.out.drew)).mono ?_; rintro e w7 ⟨G7, rfl, hG7, hown7, hb⟩; have HB7 := Lib.hid (bl_trans HB6.out.drew hb); have FW7 := Lib.hid (Fr2.below (w := w6.drew) FW.out hb); have FX7 := Lib.hid (Fr2.below (w := w6.drew) FX.out hb); have FG7 := Lib.hid (Fr2.below (w := w6.drew) FG.out hb); replace a0 := kc hb a0; replace a1 := kc hb a1; replace x0 := kc hb x0; replace x1 := kc hb x1; replace y0 := kc hb y0; replace y1 := kc hb y1; replace t0 := kc hb t0; replace t1 := kc hb t1; clear hb)
      | (go_at_call 13; refine (eqConstraint_same _ _ _ _ _ _ _ c l c l _ hn FX7.out.rdAt hown7.rdAt).mono ?_; rintro e w8 ⟨rfl, hb⟩; have HB8 := Lib.hid (bl_trans HB7.out hb); have FW8 := Lib.hid (FW7.out.below hb); have FX8 := Lib.hid (FX7.out.below hb); have FG8 := Lib.hid (FG7.out.below hb); replace a0 := kc hb a0; replace a1 := kc hb a1; replace x0 := kc hb x0; replace x1 := kc hb x1; replace y0 := kc hb y0; replace y1 := kc hb y1; replace t0 := kc hb t0; replace t1 := kc hb t1; clear hb; rw [ceq_refl]))
  clear FW FX FG HB6 HB7 FW7 FX7 FG7 hG7 hown7
  go_wp2_with fail
  refine (markConstraint_any _ _ _ _ _ c l 1 _ hn (by omega) (by omega) FX8.out.one).mono ?_
  rintro e w9 ⟨rfl, hfx, ho⟩
  have fx9 : Fr2 w9 (w3.heap.size + 1) w4.heap.size (some ⟨G4, 0, none⟩) n (mkC 1) (mkL 1) := by
    rcases FX8.out with h | ⟨G, e, h1, h2, _⟩
    · exact .inl h
    · rcases hfx with h | ⟨G', e', _, h'⟩
      · exact .inl h
      · rw [e'] at e; cases e; exact .inr ⟨_, e', h1, h2, h'⟩
  have HB9 := Lib.hid (ho.bel FX8.out HB8.out (by omega))
  have FW9 := Lib.hid (FW8.out.only ho (FX8.out.apart (.inr (by omega))))
  have FG9 := Lib.hid (FG8.out.only ho (FX8.out.apart (.inl (by omega))))
  replace a0 := FX8.out.cell ho (.inl (by show w.heap.size < _; omega)) a0
  replace a1 := FX8.out.cell ho (.inl (by show w.heap.size < _; omega)) a1
  replace x0 := FX8.out.cell ho (.inl (by show w3.heap.size < _; omega)) x0
  replace x1 := FX8.out.cell ho (.inl (by show w3.heap.size < _; omega)) x1
  replace t0 := FX8.out.cell ho (.inr (by show _ ≤ w5.heap.size; omega)) t0
  replace t1 := FX8.out.cell ho (.inr (by show _ ≤ w5.heap.size; omega)) t1
  clear ho hfx fx9 HB8 FW8 FX8 FG8 y0 y1
  have hk1 : ¬ ((1 : Int) + 2 * (n : Int) < 0) := by omega
  go_wp2_with fail
  refine (eqConstraint_same _ _ _ _ _ _ _ C L C L _ hN FG9.out.rdAt FW9.out.rdAt).mono ?_
  rintro e w10 ⟨rfl, hb⟩
  have HB10 := Lib.hid (bl_trans HB9.out hb)
  have FW10 := Lib.hid (FW9.out.below hb)
  have FG10 := Lib.hid (FG9.out.below hb)
  replace a0 := kc hb a0
  replace a1 := kc hb a1
  replace x0 := kc hb x0
  replace x1 := kc hb x1
  replace t0 := kc hb t0
  replace t1 := kc hb t1
  clear hb HB9 FW9 FG9
  rw [ceq_refl]
  go_wp2_with fail
  refine (markConstraint_any _ _ _ _ _ C L 1 _ hN (by omega) (by omega) FG10.out.one).mono ?_
  rintro e w11 ⟨rfl, hfg, ho⟩
  have HB11 := Lib.hid (ho.bel FG10.out HB10.out (by omega))
  have FW11 := Lib.hid (FW10.out.only ho (FG10.out.apart (.inr (by omega))))
  have FM := Lib.hid hfg
  replace a0 := FG10.out.cell ho (.inl (by show w.heap.size < _; omega)) a0
  replace a1 := FG10.out.cell ho (.inl (by show w.heap.size < _; omega)) a1
  replace x0 := FG10.out.cell ho (.inl (by show w3.heap.size < _; omega)) x0
  replace x1 := FG10.out.cell ho (.inl (by show w3.heap.size < _; omega)) x1
  replace t0 := FG10.out.cell ho (.inr (by show _ ≤ w5.heap.size; omega)) t0
  replace t1 := FG10.out.cell ho (.inr (by show _ ≤ w5.heap.size; omega)) t1
  clear ho hfg HB10 FW10 FG10 hk1
  go_wp2_with fail
  refine (heldConstraint_any _ _ _ _ _ 1 _ hN (by omega) (by omega) FM.out).mono ?_
  rintro e w12 ⟨rfl, hb⟩
  have HB12 := Lib.hid (bl_trans HB11.out hb)
  have FW12 := Lib.hid (FW11.out.below hb)
  have FM12 := Lib.hid (FM.out.below hb)
  replace a0 := kc hb a0
  replace a1 := kc hb a1
  replace x0 := kc hb x0
  replace x1 := kc hb x1
  replace t0 := kc hb t0
  replace t1 := kc hb t1
  clear hb HB11 FW11 FM
  have hk1 : ¬ ((1 : Int) + 2 * (N : Int) < 0) := by omega
  go_wp2_with fail
  refine (toConstraint_any _ _ _ _ c l _ hn (hr.later HB12.out)).mono ?_
  rintro e w13 ⟨G13, rfl, hG13, hown13, hb⟩
  have HB13 := Lib.hid (bl_trans HB12.out hb)
  have FW13 := Lib.hid (FW12.out.below hb)
  have FM13 := Lib.hid (FM12.out.below hb)
  replace x0 := kc hb x0
  replace x1 := kc hb x1
  replace t0 := kc hb t0
  replace t1 := kc hb t1
  clear hb HB12 FW12 FM12 a0 a1 hG13
  go_wp2_with fail
  refine (HI.out _ _ _ hown13.rdAt).mono ?_
  rintro e w14 ⟨Ah, caph, rfl, hfh, hb⟩
  have HB14 := Lib.hid (bl_trans HB13.out hb)
  have FW14 := Lib.hid (FW13.out.below hb)
  have FM14 := Lib.hid (FM13.out.below hb)
  have FH := Lib.hid hfh
  replace x0 := kc hb x0
  replace x1 := kc hb x1
  replace t0 := kc hb t0
  replace t1 := kc hb t1
  have q14 : w3.heap.size < w14.heap.size := World.block_lt_of_cell? w14 _ x0
  have q14' : w5.heap.size < w14.heap.size := World.block_lt_of_cell? w14 _ t0
  clear hb HB13 FW13 FM13 hown13 hfh HI
  go_wp2_with fail
  refine (eqConstraint_same _ _ _ _ _ _ _ C L C L _ hN (FH.out.rdAt.later (bl_alloc (Below.refl _ _) _)) (FW14.out.rdAt.later (bl_alloc (Below.refl _ _) _))).mono ?_
  rintro e w15 ⟨rfl, hb1⟩
  have hb := bl_trans (bl_alloc (Below.refl w14.heap.size w14) _) hb1
  have HB15 := Lib.hid (bl_trans HB14.out hb)
  have FM15 := Lib.hid (FM14.out.below hb)
  replace t0 := kc hb t0
  replace t1 := kc hb t1
  clear hb hb1 HB14 FW14 FM14 FH x0 x1
  rw [ceq_refl]
  go_wp2_with fail
  refine (heldConstraint_any _ _ _ _ _ 1 _ hN (by omega) (by omega) FM15.out).mono ?_
  rintro e w16 ⟨rfl, hb⟩
  have HB16 := Lib.hid (bl_trans HB15.out hb)
  clear hb HB15 FM15
  go_wp2
  go_ret
  exact ⟨rfl, HB16.out⟩
end Go.Proofs.Ytfcmhnbofoohmaa
