/- The walk of the exact law of CoversConstraint (no claim of its own). Conditions: as each theorem states. -/
import Derived.Test.YtfcmhnbofoohmaaCovC
import Derived.Deep.RegionHeld3
namespace Go.Proofs.Ytfcmhnbofoohmaa
open Go.ChangeShapes Go.WideShapes Go.ChangeAt Go.RowKit

set_option maxRecDepth 100000 in
set_option maxHeartbeats 1600000 in
theorem lawCovers_no1 (A A' : Option Addr) (n n' cap cap' : Nat) (bd bd' : Int) (w : World) (hn : 1048576 < n) (hm : n ≤ maxLen) :
    Calls Try.prog 9 #[.agg #[.slice A n cap, .int .i64 bd], .agg #[.slice A' n' cap', .int .i64 bd']] w fun e w' => e = .returned (.bool true) ∧ Below w.heap.size w w' := by
  go_enter Try.func9, Try.ntmps9
  go_wp2_with (go_at_call 16; refine (szConstraint_no _ _ _ _ _ _ (by omega) (by omega) (by omega) hm).mono ?_; rintro e w' ⟨rfl, hb⟩; have HB := Lib.hid (bl_trans (bl_alloc (bl_alloc (Below.refl w.heap.size w) _) _) hb); clear hb)
  go_ret
  exact ⟨rfl, HB.out⟩

set_option maxRecDepth 100000 in
set_option maxHeartbeats 1600000 in
theorem lawCovers_no2 (A A' : Option Addr) (n n' cap cap' : Nat) (bd bd' : Int) (w : World) (hn : n ≤ 1048576) (hn' : 1048576 < n + n') (hm' : n' ≤ maxLen) :
    Calls Try.prog 9 #[.agg #[.slice A n cap, .int .i64 bd], .agg #[.slice A' n' cap', .int .i64 bd']] w fun e w' => e = .returned (.bool true) ∧ Below w.heap.size w w' := by
  have hni : (n : Int) ≤ 1048576 := by omega
  go_enter Try.func9, Try.ntmps9
  go_wp2_with fail
  refine (szConstraint_ok _ _ _ _ _ _ (by omega) (by omega) hni).mono ?_
  rintro e w1 ⟨rfl, hb⟩
  have HB1 := Lib.hid (bl_trans (bl_alloc (bl_alloc (Below.refl w.heap.size w) _) _) hb)
  obtain ⟨hc1, hf1⟩ := bcell hb
  clear hb
  go_wp2_with fail
  refine (szConstraint_no _ _ _ _ _ _ (by omega) (by omega) (by omega) hm').mono ?_
  rintro e w2 ⟨rfl, hb⟩
  have HB2 := Lib.hid (bl_trans HB1.out hb)
  clear hb
  go_wp2
  go_ret
  exact ⟨rfl, HB2.out⟩

set_option maxRecDepth 100000 in
set_option maxHeartbeats 3200000 in
theorem lawCovers_ok (A A' : Option Addr) (n n' cap cap' : Nat) (bd bd' : Int) (c l c' l' : Nat → Int) (w : World) (hnn : n + n' ≤ 1048576) (hr : Rd w w.heap.size A n c l) (hr' : Rd w w.heap.size A' n' c' l') :
    Calls Try.prog 9 #[.agg #[.slice A n cap, .int .i64 bd], .agg #[.slice A' n' cap', .int .i64 bd']] w fun e w' => e = .returned (.bool true) ∧ Below w.heap.size w w' := by
  have hni : (n : Int) ≤ 1048576 := by omega
  have hn : n ≤ 1048576 := by omega
  have hn' : n' ≤ 1048576 := by omega
  have hni' : (n' : Int) ≤ 1048576 - (n : Int) := by omega
  go_enter Try.func9, Try.ntmps9
  go_wp2_with fail
  refine (szConstraint_ok _ _ _ _ _ _ (by omega) (by omega) hni).mono ?_
  rintro e w1 ⟨rfl, hb⟩
  have HB1 := Lib.hid (bl_trans (bl_alloc (bl_alloc (Below.refl w.heap.size w) _) _) hb)
  have a0 : w1.cell? ⟨w.heap.size, 0, none⟩ = some (.slice A n cap) := kc hb (by go_simp)
  have a1 : w1.cell? ⟨w.heap.size, 1, none⟩ = some (.int .i64 bd) := kc hb (by go_simp)
  have b0 : w1.cell? ⟨w.heap.size + 1, 0, none⟩ = some (.slice A' n' cap') := kc hb (by go_simp)
  have b1 : w1.cell? ⟨w.heap.size + 1, 1, none⟩ = some (.int .i64 bd') := kc hb (by go_simp)
  clear hb
  go_wp2_with fail
  refine (szConstraint_ok _ _ _ _ _ _ (by omega) (by omega) hni').mono ?_
  rintro e w2 ⟨rfl, hb⟩
  have HB2 := Lib.hid (bl_trans HB1.out hb)
  replace a0 := kc hb a0
  replace a1 := kc hb a1
  replace b0 := kc hb b0
  replace b1 := kc hb b1
  clear hb HB1
  go_wp2_with fail
  go_region_held3 (fun w' => w'.cell? ⟨w.heap.size, 0, none⟩ = some (.slice A n cap) ∧ w'.cell? ⟨w.heap.size, 1, none⟩ = some (.int .i64 bd) ∧ w'.cell? ⟨w.heap.size + 1, 0, none⟩ = some (.slice A' n' cap') ∧ w'.cell? ⟨w.heap.size + 1, 1, none⟩ = some (.int .i64 bd')) (go_keep)
    (first
      | (go_at_call_of 18 (Value.agg #[.slice A n cap, .int .i64 bd]); refine (toConstraint_any _ _ _ _ c l _ hn (hr.later HB2.out.drew)).mono ?_; rintro e w3 ⟨G3, rfl, hG3, hown3, hb⟩; have HB3 := Lib.hid (bl_trans HB2.out.drew hb); replace a0 := kc hb a0; replace a1 := kc hb a1; replace b0 := kc hb b0; replace b1 := kc hb b1; clear hb)
      | (go_at_call_of 18 (Value.agg #[.slice A' n' cap', .int .i64 bd']); refine (toConstraint_any _ _ _ _ c' l' _ hn' (hr'.later HB3.out)).mono ?_; rintro e w4 ⟨G4, rfl, hG4, hown4, hb⟩; have HB4 := Lib.hid (bl_trans HB3.out hb); have hown3' := hown3.below hb hown3.lt; replace a0 := kc hb a0; replace a1 := kc hb a1; replace b0 := kc hb b0; replace b1 := kc hb b1; clear hb)
      | (go_at_call 28; refine (specCov_any _ _ _ _ _ _ _ _ c l c' l' _ hn hn' hown3'.rdAt hown4.rdAt).mono ?_; rintro e w5 ⟨rfl, hb⟩; have HB5 := Lib.hid (bl_trans HB4.out hb); replace a0 := kc hb a0; replace a1 := kc hb a1; replace b0 := kc hb b0; replace b1 := kc hb b1; clear hb))
  clear hown3' hown4
  go_wp2_with fail
  refine (toConstraint_any _ _ _ _ c l _ hn (hr.later HB5.out)).mono ?_
  rintro e w6 ⟨G6, rfl, hG6, hown6, hb⟩
  have HB6 := Lib.hid (bl_trans HB5.out hb)
  replace a0 := kc hb a0
  replace a1 := kc hb a1
  replace b0 := kc hb b0
  replace b1 := kc hb b1
  clear hb HB5
  have q6 : w.heap.size + 1 < w6.heap.size := World.block_lt_of_cell? w6 _ b0
  have q6' : w.heap.size < w6.heap.size := by omega
  go_wp2_with fail
  have x0 : (w6.alloc (.cells #[.slice (some ⟨G6, 0, none⟩) n n, .int .i64 bd] 24)).cell? ⟨w6.heap.size, 0, none⟩ = some (.slice (some ⟨G6, 0, none⟩) n n) := by go_simp
  have x1 : (w6.alloc (.cells #[.slice (some ⟨G6, 0, none⟩) n n, .int .i64 bd] 24)).cell? ⟨w6.heap.size, 1, none⟩ = some (.int .i64 bd) := by go_simp
  refine (toConstraint_any _ _ _ _ c' l' _ hn' (hr'.later (bl_alloc HB6.out _))).mono ?_
  rintro e w7 ⟨G7, rfl, hG7, hown7, hb1⟩
  have hb := bl_trans (bl_alloc (Below.refl w6.heap.size w6) _) hb1
  have HB7 := Lib.hid (bl_trans HB6.out hb)
  have hown6' := hown6.below hb hown6.lt
  replace a0 := kc hb a0
  replace a1 := kc hb a1
  replace b0 := kc hb b0
  replace b1 := kc hb b1
  replace x0 := kc hb1 x0
  replace x1 := kc hb1 x1
  clear hb hb1 HB6 hown6
  have q7 : w6.heap.size < w7.heap.size := World.block_lt_of_cell? w7 _ x0
  have q7' : w.heap.size + 1 < w7.heap.size := by omega
  have q7'' : w.heap.size < w7.heap.size := by omega
  go_wp2_with fail
  have y0 : (w7.alloc (.cells #[.slice (some ⟨G7, 0, none⟩) n' n', .int .i64 bd'] 24)).cell? ⟨w7.heap.size, 0, none⟩ = some (.slice (some ⟨G7, 0, none⟩) n' n') := by go_simp
  have y1 : (w7.alloc (.cells #[.slice (some ⟨G7, 0, none⟩) n' n', .int .i64 bd'] 24)).cell? ⟨w7.heap.size, 1, none⟩ = some (.int .i64 bd') := by go_simp
  refine (implCov_any _ _ _ _ _ _ _ _ c l c' l' _ hn hn' (Nat.le_refl _) (Nat.le_refl _) (hown6'.rdAt.later (bl_alloc (Below.refl _ _) _)) (hown7.rdAt.later (bl_alloc (Below.refl _ _) _))).mono ?_
  rintro e w8 ⟨rfl, hb1⟩
  have hb := bl_trans (bl_alloc (Below.refl w7.heap.size w7) _) hb1
  have HB8 := Lib.hid (bl_trans HB7.out hb)
  have hown6 := hown6'.below hb hown6'.lt
  have hown7' := hown7.below hb hown7.lt
  replace a0 := kc hb a0
  replace a1 := kc hb a1
  replace b0 := kc hb b0
  replace b1 := kc hb b1
  replace x0 := kc hb x0
  replace x1 := kc hb x1
  replace y0 := kc hb1 y0
  replace y1 := kc hb1 y1
  clear hb hb1 HB7 hown6' hown7
  have q8 : w7.heap.size < w8.heap.size := World.block_lt_of_cell? w8 _ y0
  go_wp2_with fail
  go_region_held3 (fun w' => w'.cell? ⟨w.heap.size, 0, none⟩ = some (.slice A n cap) ∧ w'.cell? ⟨w.heap.size, 1, none⟩ = some (.int .i64 bd) ∧ w'.cell? ⟨w6.heap.size, 0, none⟩ = some (.slice (some ⟨G6, 0, none⟩) n n) ∧ w'.cell? ⟨w6.heap.size, 1, none⟩ = some (.int .i64 bd)) (go_keep)
    (first
      | (go_at_call 18; refine (toConstraint_any _ _ _ _ c l _ hn (hr.later HB8.out.drew)).mono ?_; rintro e w9 ⟨G9, rfl, hG9, hown9, hb⟩; have HB9 := Lib.hid (bl_trans HB8.out.drew hb); have hown6' := OwnT.below (w := w8.drew) hown6 hb hown6.lt; have hown7 := OwnT.below (w := w8.drew) hown7' hb hown7'.lt; replace a0 := kc hb a0; replace a1 := kc hb a1; replace b0 := kc hb b0; replace b1 := kc hb b1; replace x0 := kc hb x0; replace x1 := kc hb x1; replace y0 := kc hb y0; replace y1 := kc hb y1; clear hb)
      | (go_at_call 13; refine (eqConstraint_same _ _ _ _ _ _ _ c l c l _ hn hown6'.rdAt hown9.rdAt).mono ?_; rintro e w10 ⟨rfl, hb⟩; have HB10 := Lib.hid (bl_trans HB9.out hb); have hown7'' := hown7.below hb hown7.lt; replace a0 := kc hb a0; replace a1 := kc hb a1; replace b0 := kc hb b0; replace b1 := kc hb b1; replace x0 := kc hb x0; replace x1 := kc hb x1; replace y0 := kc hb y0; replace y1 := kc hb y1; clear hb; rw [ceq_refl]))
  go_wp2_with fail
  go_region_held3 (fun w' => w'.cell? ⟨w.heap.size + 1, 0, none⟩ = some (.slice A' n' cap') ∧ w'.cell? ⟨w.heap.size + 1, 1, none⟩ = some (.int .i64 bd') ∧ w'.cell? ⟨w7.heap.size, 0, none⟩ = some (.slice (some ⟨G7, 0, none⟩) n' n') ∧ w'.cell? ⟨w7.heap.size, 1, none⟩ = some (.int .i64 bd')) (go_keep)
    (first
      | (go_at_call 18; refine (toConstraint_any _ _ _ _ c' l' _ hn' (hr'.later HB10.out.drew)).mono ?_; rintro e w11 ⟨G11, rfl, hG11, hown11, hb⟩; have HB11 := Lib.hid (bl_trans HB10.out.drew hb); have hown7 := OwnT.below (w := w10.drew) hown7'' hb hown7''.lt; replace a0 := kc hb a0; replace a1 := kc hb a1; replace b0 := kc hb b0; replace b1 := kc hb b1; replace y0 := kc hb y0; replace y1 := kc hb y1; clear hb)
      | (go_at_call 13; refine (eqConstraint_same _ _ _ _ _ _ _ c' l' c' l' _ hn' hown7.rdAt hown11.rdAt).mono ?_; rintro e w12 ⟨rfl, hb⟩; have HB12 := Lib.hid (bl_trans HB11.out hb); replace a0 := kc hb a0; replace a1 := kc hb a1; replace b0 := kc hb b0; replace b1 := kc hb b1; replace y0 := kc hb y0; replace y1 := kc hb y1; clear hb; rw [ceq_refl]))
  go_wp2
  go_ret
  exact ⟨rfl, HB12.out⟩

theorem lawCoversConstraint_walk (A : Option Addr) (n cap : Nat) (bd : Int) (c l : Nat → Int) (A' : Option Addr) (n' cap' : Nat) (bd' : Int) (c' l' : Nat → Int) (w : World) (hm : n ≤ maxLen) (hr : Rd w w.heap.size A n c l) (hm' : n' ≤ maxLen) (hr' : Rd w w.heap.size A' n' c' l') :
    Calls Try.prog 9 #[.agg #[.slice A n cap, .int .i64 bd], .agg #[.slice A' n' cap', .int .i64 bd']] w fun e w' => e = .returned (.bool true) ∧ Below w.heap.size w w' := by
  by_cases h : n ≤ 1048576
  · by_cases h' : n + n' ≤ 1048576
    · exact lawCovers_ok A A' n n' cap cap' bd bd' c l c' l' w h' hr hr'
    · exact lawCovers_no2 A A' n n' cap cap' bd bd' w h (by omega) hm'
  · exact lawCovers_no1 A A' n n' cap cap' bd bd' w (by omega) hm
end Go.Proofs.Ytfcmhnbofoohmaa
