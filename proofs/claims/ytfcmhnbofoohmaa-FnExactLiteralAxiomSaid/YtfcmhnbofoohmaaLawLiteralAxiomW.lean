/- The walk of the exact law of LiteralAxiom (no claim of its own). Conditions: as each theorem states. -/
import Derived.Test.YtfcmhnbofoohmaaLitA
import Derived.Deep.RegionHeld3
namespace Go.Proofs.Ytfcmhnbofoohmaa
open Go.ChangeShapes Go.WideShapes Go.ChangeAt Go.RowKit

set_option maxRecDepth 100000 in
set_option maxHeartbeats 6400000 in
theorem lawLiteralAxiom_ok (kk : Int) (N : Nat) (C L : Nat → Int) (BD : Int) (OK : Bool) (w : World) (hN : N ≤ 1048576)
    (hS : ∀ W, Calls Try.prog 11 #[.int .i64 kk] W (CRes W N C L BD OK))
    (hI : ∀ W, Calls Try.prog 12 #[.int .i64 kk] W (CRes W N C L BD OK)) :
    Calls Try.prog 3 #[.int .i64 kk] w fun e w' => e = .returned (.bool true) ∧ Below w.heap.size w w' := by
  have HS := Lib.hid hS
  have HI := Lib.hid hI
  clear hS hI
  go_enter Try.func3, Try.ntmps3
  go_wp2_with fail
  refine (HS.out _).mono ?_
  rintro e w3 ⟨Aw, capw, rfl, hfw, hb⟩
  have HB3 := Lib.hid hb
  have FW := Lib.hid hfw.two
  have z23 : w.heap.size ≤ w3.heap.size := hb.size
  clear hb hfw HS
  go_wp2_with fail
  have x0 : (w3.alloc (.cells #[.slice Aw N capw, .int .i64 BD] 24)).cell? ⟨w3.heap.size, 0, none⟩ = some (.slice Aw N capw) := by go_simp
  have x1 : (w3.alloc (.cells #[.slice Aw N capw, .int .i64 BD] 24)).cell? ⟨w3.heap.size, 1, none⟩ = some (.int .i64 BD) := by go_simp
  refine (HI.out _).mono ?_
  rintro e w5 ⟨Ag, capg, rfl, hfg, hb1⟩
  have hb := bl_trans (bl_alloc (Below.refl w3.heap.size w3) _) hb1
  have HB5 := Lib.hid (bl_trans HB3.out hb)
  have fg : Fr2 w5 (w3.heap.size + 1) w5.heap.size Ag N C L := Frs.two (hfg.more (by simp))
  have fw := FW.out.below hb
  replace x0 := kc hb1 x0
  replace x1 := kc hb1 x1
  have z5'' : w3.heap.size < w5.heap.size := World.block_lt_of_cell? w5 _ x0
  clear hb hb1 HB3 FW hfg
  have FW := Lib.hid fw
  have FG := Lib.hid fg
  clear fw fg
  go_wp2_with fail
  have t0 : (w5.alloc (.cells #[.slice Ag N capg, .int .i64 BD] 24)).cell? ⟨w5.heap.size, 0, none⟩ = some (.slice Ag N capg) := by go_simp
  have t1 : (w5.alloc (.cells #[.slice Ag N capg, .int .i64 BD] 24)).cell? ⟨w5.heap.size, 1, none⟩ = some (.int .i64 BD) := by go_simp
  refine (eqConstraint_same _ _ _ _ _ _ _ C L C L _ hN (FG.out.rdAt.later (bl_alloc (Below.refl _ _) _)) (FW.out.rdAt.later (bl_alloc (Below.refl _ _) _))).mono ?_
  rintro e w10 ⟨rfl, hb1⟩
  have hb := bl_trans (bl_alloc (Below.refl w5.heap.size w5) _) hb1
  have HB10 := Lib.hid (bl_trans HB5.out hb)
  have FW10 := Lib.hid (FW.out.below hb)
  have FG10 := Lib.hid (FG.out.below hb)
  replace x0 := kc hb x0
  replace x1 := kc hb x1
  replace t0 := kc hb1 t0
  replace t1 := kc hb1 t1
  clear hb hb1 HB5 FW FG
  rw [ceq_refl]
  go_wp2_with fail
  refine (markConstraint_any _ _ _ _ _ C L 1 _ hN (by omega) (by omega) FG10.out.one).mono ?_
  rintro e w11 ⟨rfl, hfg, ho⟩
  have HB11 := Lib.hid (ho.bel FG10.out HB10.out (by omega))
  have FW11 := Lib.hid (FW10.out.only ho (FG10.out.apart (.inr (by omega))))
  have FM := Lib.hid hfg
  replace x0 := FG10.out.cell ho (.inl (by show w3.heap.size < _; omega)) x0
  replace x1 := FG10.out.cell ho (.inl (by show w3.heap.size < _; omega)) x1
  replace t0 := FG10.out.cell ho (.inr (by show _ ≤ w5.heap.size; omega)) t0
  replace t1 := FG10.out.cell ho (.inr (by show _ ≤ w5.heap.size; omega)) t1
  clear ho hfg HB10 FW10 FG10
  go_wp2_with fail
  refine (heldConstraint_any _ _ _ _ _ 1 _ hN (by omega) (by omega) FM.out).mono ?_
  rintro e w12 ⟨rfl, hb⟩
  have HB12 := Lib.hid (bl_trans HB11.out hb)
  have FW12 := Lib.hid (FW11.out.below hb)
  have FM12 := Lib.hid (FM.out.below hb)
  replace x0 := kc hb x0
  replace x1 := kc hb x1
  replace t0 := kc hb t0
  replace t1 := kc hb t1
  clear hb HB11 FW11 FM
  have hk1 : ¬ ((1 : Int) + 2 * (N : Int) < 0) := by omega
  go_wp2_with fail
  refine (HI.out _).mono ?_
  rintro e w14 ⟨Ah, caph, rfl, hfh, hb⟩
  have HB14 := Lib.hid (bl_trans HB12.out hb)
  have FW14 := Lib.hid (FW12.out.below hb)
  have FM14 := Lib.hid (FM12.out.below hb)
  have FH := Lib.hid hfh
  replace x0 := kc hb x0
  replace x1 := kc hb x1
  replace t0 := kc hb t0
  replace t1 := kc hb t1
  have q14 : w3.heap.size < w14.heap.size := World.block_lt_of_cell? w14 _ x0
  have q14' : w5.heap.size < w14.heap.size := World.block_lt_of_cell? w14 _ t0
  clear hb HB12 FW12 FM12 hfh HI
  go_wp2_with fail
  refine (eqConstraint_same _ _ _ _ _ _ _ C L C L _ hN (FH.out.rdAt.later (bl_alloc (Below.refl _ _) _)) (FW14.out.rdAt.later (bl_alloc (Below.refl _ _) _))).mono ?_
  rintro e w15 ⟨rfl, hb1⟩
  have hb := bl_trans (bl_alloc (Below.refl w14.heap.size w14) _) hb1
  have HB15 := Lib.hid (bl_trans HB14.out hb)
  have FM15 := Lib.hid (FM14.out.below hb)
  replace t0 := kc hb t0
  replace t1 := kc hb t1
  clear hb hb1 HB14 FW14 FM14 FH x0 x1
  rw [ceq_refl]
  go_wp2_with fail
  refine (heldConstraint_any _ _ _ _ _ 1 _ hN (by omega) (by omega) FM15.out).mono ?_
  rintro e w16 ⟨rfl, hb⟩
  have HB16 := Lib.hid (bl_trans HB15.out hb)
  clear hb HB15 FM15
  go_wp2
  go_ret
  exact ⟨rfl, HB16.out⟩

theorem lawLiteralAxiom_walk (kk : Int) (w : World) (_hk : (Lit.int .i64 kk).wf = true) :
    Calls Try.prog 3 #[.int .i64 kk] w fun e w' => e = .returned (.bool true) ∧ Below w.heap.size w w' :=
  lawLiteralAxiom_ok kk (litN kk) one1 (fun _ => kk) 0 (litB kk) w (by unfold litN; split <;> omega) (fun W => specLit_any kk W) (fun W => implLit_any kk W)
end Go.Proofs.Ytfcmhnbofoohmaa
