/- The walk of the exact law of SlackOf (no claim of its own). Conditions: as each theorem states. -/
import Derived.Test.YtgfofdcggbkeeaaSlkC
import Derived.Test.YtgfofdcggbkeeaaFrameC
import Derived.Deep.RegionHeld3
namespace Go.Proofs.Ytgfofdcggbkeeaa
open Go.ChangeShapes Go.WideShapes Go.ChangeAt Go.RowKit

set_option maxRecDepth 100000 in
set_option maxHeartbeats 1600000 in
theorem lawSlack_no1 (A Av : Option Addr) (n cap nv capv : Nat) (bd : Int) (w : World) (hn : 1048576 < nv) :
    Calls Try.prog 5 #[.agg #[.slice A n cap, .int .i64 bd], .slice Av nv capv] w fun e w' => e = .returned (.bool true) ∧ Below w.heap.size w w' := by
  have hni : (1048576 : Int) < (nv : Int) := by omega
  go_enter Try.func5, Try.ntmps5
  go_wp2
  go_ret
  exact ⟨rfl, bl_alloc (Below.refl _ _) _⟩

set_option maxRecDepth 100000 in
set_option maxHeartbeats 1600000 in
theorem lawSlack_no2 (A Av : Option Addr) (n cap nv capv : Nat) (bd : Int) (w : World) (hnv : nv ≤ 1048576) (hn : 1048576 < n) (hm : n ≤ maxLen) :
    Calls Try.prog 5 #[.agg #[.slice A n cap, .int .i64 bd], .slice Av nv capv] w fun e w' => e = .returned (.bool true) ∧ Below w.heap.size w w' := by
  have hni : ¬ (1048576 : Int) < (nv : Int) := by omega
  go_enter Try.func5, Try.ntmps5
  go_wp2_with (go_at_call 21; refine (szConstraint_no _ _ _ _ _ _ (by omega) (by omega) (by omega) hm).mono ?_; rintro e w' ⟨rfl, hb⟩; have HB := Lib.hid (bl_trans (bl_alloc (Below.refl w.heap.size w) _) hb); clear hb)
  go_ret
  exact ⟨rfl, HB.out⟩

set_option maxRecDepth 100000 in
set_option maxHeartbeats 3200000 in
theorem lawSlack_ok (A Av : Option Addr) (n cap nv capv : Nat) (bd : Int) (c l : Nat → Int) (v : Nat → Int) (w : World) (hn : n ≤ 1048576) (hnv : nv ≤ 1048576) (hr : Rd w w.heap.size A n c l) (hrv : RdI w w.heap.size Av nv v) :
    Calls Try.prog 5 #[.agg #[.slice A n cap, .int .i64 bd], .slice Av nv capv] w fun e w' => e = .returned (.bool true) ∧ Below w.heap.size w w' := by
  have hni : (n : Int) ≤ 1048576 := by omega
  have hnvi : ¬ (1048576 : Int) < (nv : Int) := by omega
  go_enter Try.func5, Try.ntmps5
  go_wp2_with fail
  refine (szConstraint_ok _ _ _ _ _ _ (by omega) (by omega) hni).mono ?_
  rintro e w1 ⟨rfl, hb⟩
  have HB1 := Lib.hid (bl_trans (bl_alloc (Below.refl w.heap.size w) _) hb)
  have a0 : w1.cell? ⟨w.heap.size, 0, none⟩ = some (.slice A n cap) := kc hb (by go_simp)
  have a1 : w1.cell? ⟨w.heap.size, 1, none⟩ = some (.int .i64 bd) := kc hb (by go_simp)
  clear hb
  go_wp2_with fail
  refine (toConstraint_any _ _ _ _ c l _ hn (hr.later HB1.out)).mono ?_
  rintro e w2 ⟨G2, rfl, hG2, hown2, hb⟩
  have HB2 := Lib.hid (bl_trans HB1.out hb)
  replace a0 := kc hb a0
  replace a1 := kc hb a1
  clear hb HB1 hG2
  go_wp2_with fail
  refine (toIntS_any _ _ _ v _ hnv (hrv.later HB2.out)).mono ?_
  rintro e w3 ⟨G3, rfl, hG3, hown3, hb⟩
  have HB3 := Lib.hid (bl_trans HB2.out hb)
  have hown2' := hown2.below hb hown2.lt
  replace a0 := kc hb a0
  replace a1 := kc hb a1
  clear hb HB2 hown2 hG3
  go_wp2_with fail
  refine (specSlack_any _ _ _ _ _ _ _ c l v _ hn hnv hown2'.rdAt hown3.rdAt).mono ?_
  rintro e w4 ⟨rfl, hb⟩
  have HB4 := Lib.hid (bl_trans HB3.out hb)
  replace a0 := kc hb a0
  replace a1 := kc hb a1
  clear hb HB3 hown2' hown3
  go_wp2_with fail
  refine (toConstraint_any _ _ _ _ c l _ hn (hr.later HB4.out)).mono ?_
  rintro e w5 ⟨G5, rfl, hG5, hown5, hb⟩
  have HB5 := Lib.hid (bl_trans HB4.out hb)
  replace a0 := kc hb a0
  replace a1 := kc hb a1
  have q5 : w.heap.size < w5.heap.size := World.block_lt_of_cell? w5 _ a0
  clear hb HB4 hG5
  go_wp2_with fail
  have x0 : (w5.alloc (.cells #[.slice (some ⟨G5, 0, none⟩) n n, .int .i64 bd] 41)).cell? ⟨w5.heap.size, 0, none⟩ = some (.slice (some ⟨G5, 0, none⟩) n n) := by go_simp
  have x1 : (w5.alloc (.cells #[.slice (some ⟨G5, 0, none⟩) n n, .int .i64 bd] 41)).cell? ⟨w5.heap.size, 1, none⟩ = some (.int .i64 bd) := by go_simp
  refine (toIntS_any _ _ _ v _ hnv (hrv.later (bl_alloc HB5.out _))).mono ?_
  rintro e w6 ⟨G6, rfl, hG6, hown6, hb1⟩
  have hb := bl_trans (bl_alloc (Below.refl w5.heap.size w5) _) hb1
  have HB6 := Lib.hid (bl_trans HB5.out hb)
  have hown5' := hown5.below hb hown5.lt
  replace a0 := kc hb a0
  replace a1 := kc hb a1
  replace x0 := kc hb1 x0
  replace x1 := kc hb1 x1
  have q6 : w5.heap.size < w6.heap.size := World.block_lt_of_cell? w6 _ x0
  clear hb hb1 HB5 hown5 hG6
  go_wp2_with fail
  refine (implSlack_any _ _ _ _ _ _ _ c l v _ hn hnv hown5'.rdAt hown6.rdAt).mono ?_
  rintro e w7 ⟨rfl, hb⟩
  have HB7 := Lib.hid (bl_trans HB6.out hb)
  have hown5 := hown5'.below hb hown5'.lt
  have hown6' := hown6.below hb hown6.lt
  replace a0 := kc hb a0
  replace a1 := kc hb a1
  replace x0 := kc hb x0
  replace x1 := kc hb x1
  clear hb HB6 hown5' hown6
  go_wp2_with fail
  go_region_held3 (fun w' => w'.cell? ⟨w.heap.size, 0, none⟩ = some (.slice A n cap) ∧ w'.cell? ⟨w.heap.size, 1, none⟩ = some (.int .i64 bd) ∧ w'.cell? ⟨w5.heap.size, 0, none⟩ = some (.slice (some ⟨G5, 0, none⟩) n n) ∧ w'.cell? ⟨w5.heap.size, 1, none⟩ = some (.int .i64 bd)) (go_keep)
    (first
      | (go_at_call 23; refine (toConstraint_any _ _ _ _ c l _ hn (hr.later HB7.out.drew)).mono ?_; rintro e w8 ⟨G8, rfl, hG8, hown8, hb⟩; have HB8 := Lib.hid (bl_trans HB7.out.drew hb); have hown5' := OwnT.below (w := w7.drew) hown5 hb hown5.lt; have hown6 := OwnI.below (w := w7.drew) hown6' hb hown6'.lt; replace a0 := kc hb a0; replace a1 := kc hb a1; replace x0 := kc hb x0; replace x1 := kc hb x1; clear hb)
      | (go_at_call 25; refine (eqConstraint_same _ _ _ _ _ _ _ c l c l _ hn hown5'.rdAt hown8.rdAt).mono ?_; rintro e w9 ⟨rfl, hb⟩; have HB9 := Lib.hid (bl_trans HB8.out hb); have hown6'' := hown6.below hb hown6.lt; replace a0 := kc hb a0; replace a1 := kc hb a1; replace x0 := kc hb x0; replace x1 := kc hb x1; clear hb; rw [ceq_refl]))
  go_wp2_with fail
  refine (toIntS_any _ _ _ v _ hnv (hrv.later HB9.out)).mono ?_
  rintro e w10 ⟨G10, rfl, hG10, hown10, hb⟩
  have HB10 := Lib.hid (bl_trans HB9.out hb)
  have hown6 := hown6''.below hb hown6''.lt
  clear hb
  go_wp2_with fail
  refine (eqIntS_refl _ _ _ _ _ v _ hnv hown6.rdAt hown10.rdAt).mono ?_
  rintro e w11 ⟨rfl, hb⟩
  have HB11 := Lib.hid (bl_trans HB10.out hb)
  clear hb
  go_wp2
  go_ret
  exact ⟨rfl, HB11.out⟩

theorem lawSlackOf_walk (A : Option Addr) (n cap : Nat) (bd : Int) (c l : Nat → Int) (Av : Option Addr) (nv capv : Nat) (v : Nat → Int) (w : World) (hm : n ≤ maxLen) (hr : Rd w w.heap.size A n c l) (_hmv : nv ≤ maxLen) (hrv : RdI w w.heap.size Av nv v) :
    Calls Try.prog 5 #[.agg #[.slice A n cap, .int .i64 bd], .slice Av nv capv] w fun e w' => e = .returned (.bool true) ∧ Below w.heap.size w w' := by
  by_cases h : nv ≤ 1048576
  · by_cases h' : n ≤ 1048576
    · exact lawSlack_ok A Av n cap nv capv bd c l v w h' h hr hrv
    · exact lawSlack_no2 A Av n cap nv capv bd w h (by omega) hm
  · exact lawSlack_no1 A Av n cap nv capv bd w (by omega)
end Go.Proofs.Ytgfofdcggbkeeaa
