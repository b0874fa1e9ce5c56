/- The walk of the exact law of ConstraintValid (no claim of its own). Conditions: as each theorem states. -/
import Derived.Test.YtkahehfcedcpaaaValidB
import Derived.Deep.RegionHeld3
namespace Go.Proofs.Ytkahehfcedcpaaa
open Go.ChangeShapes Go.WideShapes Go.ChangeAt Go.RowKit

theorem OwnT.rdAt {w : World} {G n : Nat} {c l : Nat → Int} (h : OwnT w G n n c l) : Rd w w.heap.size (some ⟨G, 0, none⟩) n c l := h.rd.more h.lt
theorem Rd.later {w w' : World} {A : Option Addr} {n : Nat} {c l : Nat → Int} (h : Rd w w.heap.size A n c l) (hb : Below w.heap.size w w') : Rd w' w'.heap.size A n c l := (h.below hb).more hb.size
theorem ceq_refl (n : Nat) (c l : Nat → Int) (bd : Int) : ceq n c l c l bd bd = true := by simp [ceq, tseq_refl]

set_option maxRecDepth 100000 in
set_option maxHeartbeats 1600000 in
theorem lawValid_no (A : Option Addr) (n cap : Nat) (bd : Int) (w : World) (hn : 1048576 < n) (hm : n ≤ maxLen) :
    Calls Try.prog 3 #[.agg #[.slice A n cap, .int .i64 bd]] w fun e w' => e = .returned (.bool true) ∧ Below w.heap.size w w' := by
  go_enter Try.func3, Try.ntmps3
  go_wp2_with (go_at_call 10; refine (szConstraint_no _ _ _ _ _ _ (by omega) (by omega) (by omega) hm).mono ?_; rintro e w' ⟨rfl, hb⟩; have HB := Lib.hid (bl_trans (bl_alloc (Below.refl w.heap.size w) _) hb); clear hb)
  go_ret
  exact ⟨rfl, HB.out⟩

set_option maxRecDepth 100000 in
set_option maxHeartbeats 1600000 in
theorem lawValid_ok (A : Option Addr) (n cap : Nat) (bd : Int) (c l : Nat → Int) (w : World) (hn : n ≤ 1048576) (hr : Rd w w.heap.size A n c l) :
    Calls Try.prog 3 #[.agg #[.slice A n cap, .int .i64 bd]] w fun e w' => e = .returned (.bool true) ∧ Below w.heap.size w w' := by
  have hni : (n : Int) ≤ 1048576 := by omega
  go_enter Try.func3, Try.ntmps3
  go_wp2_with fail
  refine (szConstraint_ok _ _ _ _ _ _ (by omega) (by omega) hni).mono ?_
  rintro e w1 ⟨rfl, hb⟩
  have HB1 := Lib.hid (bl_trans (bl_alloc (Below.refl w.heap.size w) _) hb)
  obtain ⟨hc1, hf1⟩ := bcell hb
  have hz1 : w.heap.size < w1.heap.size := by have := hb.size; simp at this; omega
  clear hb
  go_wp2_with fail
  refine (toConstraint_any _ _ _ _ c l _ hn (hr.later HB1.out)).mono ?_
  rintro e w2 ⟨G2, rfl, hG2, hown2, hb⟩
  have HB2 := Lib.hid (bl_trans HB1.out hb)
  obtain ⟨hc2, hf2⟩ := bcell hb
  have hz2 : w.heap.size < w2.heap.size := by have := hb.size; omega
  clear hb
  go_wp2_with fail
  refine (specValid_any _ _ _ _ c l _ hn hown2.rdAt).mono ?_
  rintro e w3 ⟨rfl, hb⟩
  have HB3 := Lib.hid (bl_trans HB2.out hb)
  obtain ⟨hc3, hf3⟩ := bcell hb
  have hz3 : w.heap.size < w3.heap.size := by have := hb.size; omega
  clear hb hown2 hG2
  go_wp2_with fail
  refine (toConstraint_any _ _ _ _ c l _ hn (hr.later HB3.out)).mono ?_
  rintro e w4 ⟨G4, rfl, hG4, hown4, hb⟩
  have HB4 := Lib.hid (bl_trans HB3.out hb)
  obtain ⟨hc4, hf4⟩ := bcell hb
  have hz4 : w.heap.size < w4.heap.size := by have := hb.size; omega
  clear hb
  go_wp2_with fail
  refine (implValid_any _ _ _ _ c l _ hn (hown4.rdAt.later (bl_alloc (Below.refl _ _) _))).mono ?_
  rintro e w5 ⟨rfl, hb⟩
  have HB5 := Lib.hid (bl_trans (bl_alloc HB4.out _) hb)
  have hown5 := hown4.below (bl_trans (bl_alloc (Below.refl _ _) _) hb) hown4.lt
  obtain ⟨hc5, hf5⟩ := bcell hb
  have hz5 : w4.heap.size < w5.heap.size := by have := hb.size; simp at this; omega
  clear hb hown4
  go_wp2_with fail
  have x0 : w5.cell? ⟨w.heap.size, 0, none⟩ = some (.slice A n cap) := by go_simp
  have x1 : w5.cell? ⟨w.heap.size, 1, none⟩ = some (.int .i64 bd) := by go_simp
  have x2 : w5.cell? ⟨w4.heap.size, 0, none⟩ = some (.slice (some ⟨G4, 0, none⟩) n n) := by go_simp
  have x3 : w5.cell? ⟨w4.heap.size, 1, none⟩ = some (.int .i64 bd) := by go_simp
  clear hc1 hc2 hc3 hc4 hc5 hf1 hf2 hf3 hf4 hf5 HB1 HB2 HB3 HB4
  have hz6 : w.heap.size < w5.heap.size := by omega
  go_region_held3 (fun w' => w'.cell? ⟨w.heap.size, 0, none⟩ = some (.slice A n cap) ∧ w'.cell? ⟨w.heap.size, 1, none⟩ = some (.int .i64 bd) ∧ w'.cell? ⟨w4.heap.size, 0, none⟩ = some (.slice (some ⟨G4, 0, none⟩) n n) ∧ w'.cell? ⟨w4.heap.size, 1, none⟩ = some (.int .i64 bd)) (go_keep)
    (first
      | (go_at_call 12; refine (toConstraint_any _ _ _ _ c l _ hn (hr.later HB5.out.drew)).mono ?_; rintro e w6 ⟨G6, rfl, hG6, hown6, hb⟩; have HB6 := Lib.hid (bl_trans HB5.out.drew hb); have hown5' := OwnT.below (w := w5.drew) hown5 hb hown5.lt; have y0 := (hb.cell (p := ⟨w.heap.size, 0, none⟩) hz6).trans x0; have y1 := (hb.cell (p := ⟨w.heap.size, 1, none⟩) hz6).trans x1; have y2 := (hb.cell (p := ⟨w4.heap.size, 0, none⟩) hz5).trans x2; have y3 := (hb.cell (p := ⟨w4.heap.size, 1, none⟩) hz5).trans x3; have hz8 := Nat.lt_of_lt_of_le hz6 hb.size; have hz9 := Nat.lt_of_lt_of_le hz5 hb.size; clear hb)
      | (go_at_call 14; refine (eqConstraint_same _ _ _ _ _ _ _ c l c l _ hn hown5'.rdAt hown6.rdAt).mono ?_; rintro e w7 ⟨rfl, hb⟩; have HB7 := Lib.hid (bl_trans HB6.out hb); have v0 := (hb.cell (p := ⟨w.heap.size, 0, none⟩) hz8).trans y0; have v1 := (hb.cell (p := ⟨w.heap.size, 1, none⟩) hz8).trans y1; have v2 := (hb.cell (p := ⟨w4.heap.size, 0, none⟩) hz9).trans y2; have v3 := (hb.cell (p := ⟨w4.heap.size, 1, none⟩) hz9).trans y3; clear hb; rw [ceq_refl]))
  go_wp2
  go_ret
  exact ⟨rfl, HB7.out⟩

theorem lawConstraintValid_walk (A : Option Addr) (n cap : Nat) (bd : Int) (c l : Nat → Int) (w : World) (hm : n ≤ maxLen) (hr : Rd w w.heap.size A n c l) :
    Calls Try.prog 3 #[.agg #[.slice A n cap, .int .i64 bd]] w fun e w' => e = .returned (.bool true) ∧ Below w.heap.size w w' := by
  by_cases h : n ≤ 1048576
  · exact lawValid_ok A n cap bd c l w h hr
  · exact lawValid_no A n cap bd w (by omega) hm
end Go.Proofs.Ytkahehfcedcpaaa
